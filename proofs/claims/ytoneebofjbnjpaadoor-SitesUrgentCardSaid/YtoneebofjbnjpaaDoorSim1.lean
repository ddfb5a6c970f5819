/- The walk of Sites. -/
import Derived.Test.YtoneebofjbnjpaaDoorSiM
namespace Go.Proofs.YtoneebofjbnjpaaDoor
open Go.RowKit
variable {Q : Nat → Prop}

set_option maxRecDepth 100000 in
set_option maxHeartbeats 8000000 in
theorem sites_any (bs : Nat) (L : List Int) (t : Nat) (w : World) (hs : StrQ Q w bs L t) (ht : t ≤ 900000) :
    Calls Tryd.prog 8 #[.pointer (some ⟨bs, 0, none⟩)] w
      fun e w' => ∃ A c, e = .returned (.slice A (sitesM L t).2.length c) ∧ RdSi w' (w.heap.size + 1) A (sitesM L t).2 ∧ StrQ Q w' bs L (sitesM L t).1 ∧ w.grownBy w' (some bs) := by
  have hbs := hs.lt
  have hgK : w.grownBy (w.alloc (.cells (strs kys).toArray 9)) none := grown_alloc (grown_refl w) _
  have hrK : Rd (w.alloc (.cells (strs kys).toArray 9)) 1 (some ⟨w.heap.size, 0, none⟩) 4 (strs kys) := str_rd_new w kys 9
  have hO0 : OutS Q (w.alloc (.cells (strs kys).toArray 9)) (w.alloc (.cells (strs kys).toArray 9)) bs L t (.slice none 0 0) [] :=
    { st := hs.grown hgK (by simp), own := World.ownsRow_nil _ _ _ _, rows := (fun r hr => by cases hr), gro := World.grownBy.refl _ _, lt := by simp; omega }
  have hzK : (w.alloc (.cells (strs kys).toArray 9)).heap.size = w.heap.size + 1 := by simp
  have hkl : (w.alloc (.cells (strs kys).toArray 9)) = w.alloc (.cells #[.string ⟨#[109, 97]⟩, .string ⟨#[109, 98]⟩, .string ⟨#[109, 99]⟩, .string ⟨#[109, 100]⟩] 9) := rfl
  obtain ⟨M, hM⟩ : ∃ M, sitesM L t = M := ⟨_, rfl⟩
  have hMd := hM
  unfold sitesM at hMd
  have hb4 := sitRun_b L t 4
  rw [hM]
  obtain ⟨w1, hw1⟩ : ∃ w1, w.alloc (.cells (strs kys).toArray 9) = w1 := ⟨_, rfl⟩
  rw [hw1] at hgK hrK hO0 hzK hkl
  have HM := Lib.hid (And.intro hMd (And.intro hkl hgK))
  clear hM hMd hs hw1
  go_enter Tryd.func8, Tryd.ntmps8
  go_wp2_with fail
  rw [← HM.out.2.1]
  go_loopg [3, 9] 4 (fun k o i wr => ∃ (j : Nat) (l : List Sr), k + j = 4 ∧ i = .int .i64 j ∧ l.map sitK = (sitRun L t j).2 ∧ OutS Q w1 wr bs L (sitRun L t j).1 o l)
  case atStart => exact ⟨0, [], by omega, rfl, rfl, hO0⟩
  case round =>
    clear hO0
    obtain ⟨j, l, hj, rfl, hl, hO⟩ := hrel
    by_cases hlt : j < 4
    · obtain ⟨kb, ko2, ek, _, k, hk, ck⟩ := str_cells (hrK.grown_ hO.gro (fun a ha e => by cases ha; simp at e; omega)) hlt
      obtain ⟨rfl, rfl⟩ : w.heap.size = kb ∧ 0 = ko2 := by simpa using ek
      rw [Nat.zero_add] at ck
      have hlen : l.length ≤ j := by have := congrArg List.length hl; simp at this; have := (sitRun_b L t j).2; omega
      have hbT := (sitRun_b L t j).1
      have hstep : sitRun L t (j + 1) = sitStep L k (sitRun L t j) := by rw [sitRun, List.getD_eq_getElem?_getD, hk]; rfl
      unfold sitStep at hstep
      obtain ⟨T, hT⟩ : ∃ T, (sitRun L t j).1 = T := ⟨_, rfl⟩
      rw [hT] at hstep hO hbT
      obtain ⟨ko, hko⟩ : ∃ ko : Nat, ko = gk := ⟨_, rfl⟩
      have HL := Lib.hid (And.intro hl (And.intro hstep (And.intro hj hko)))
      clear hl hT hstep hk ek hko hj
      go_wp2_with fail
      refine (flip_any bs L T 4 _ hO.st (by omega) (by omega)).mono ?_
      rintro e w4 ⟨rfl, hs4, hg4⟩
      have hO4 := hO.call hs4 hg4
      clear hO hs4 hg4 ck
      by_cases hf : nx L T 4 = 0
      · have hf' : (nx L T 4 == 0) = true := by simp [hf]
        rw [hf']
        have hstep := HL.out.2.1
        rw [if_pos hf] at hstep
        have HS := Lib.hid hstep
        clear hf hf' hstep
        go_wp2_with fail
        have hj := HL.out.2.2.1
        have hko := HL.out.2.2.2
        go_roundg (gk - 1)
        case measure => omega
        case rel => exact ⟨j + 1, l, by omega, by go_num, by rw [HS.out]; exact HL.out.1, by rw [HS.out]; exact hO4⟩
      · have hf' : (nx L T 4 == 0) = false := by simp [hf]
        rw [hf']
        have hstep := HL.out.2.1
        rw [if_neg hf] at hstep
        obtain ⟨m0, m1⟩ := nx_in L (T + 1) 3 (by omega)
        obtain ⟨m, hm⟩ := Int.eq_ofNat_of_zero_le (show 0 ≤ 1 + nx L (T + 1) 3 by omega)
        have hm4 : m ≤ 3 := by omega
        rw [hm, Int.toNat_natCast] at hstep
        have HS := Lib.hid hstep
        have HM3 := Lib.hid hm
        clear hf hf' hstep m0 m1 hm
        have hgB := grown_alloc (grown_refl w4) (.cells #[.string k, .slice none 0 0, .slice none 0 0] 75)
        have hI0 : InS Q w1 (w4.alloc (.cells #[.string k, .slice none 0 0, .slice none 0 0] 75)) bs L (T + 1) u3 l w4.heap.size k (.slice none 0 0) (.slice none 0 0) (.slice none 0 0) (.slice none 0 0) [] [] :=
          { out := hO4.quiet hgB, oh := World.ownsRow_nil _ _ _ _, orr := World.ownsRow_nil _ _ _ _, ap := (fun g h => by cases h), blk := Blk.new w4 _ _, bB := hO4.gro.size,
            noB := ⟨fun e => by have := (hO4.own.lt _ e).2; omega, fun r hr a ha e => by have := ((hO4.rows r hr).2 a ha).1; omega⟩, noH := (fun r hr a ha => ⟨by simp [Value.ownBlock], by simp [Value.ownBlock]⟩) }
        go_wp2_with fail
        obtain ⟨B, hB⟩ : ∃ B, w4.heap.size = B := ⟨_, rfl⟩
        rw [hB] at hI0 ⊢
        generalize w4.alloc (.cells #[.string k, .slice none 0 0, .slice none 0 0] 75) = w5 at *
        clear hgB hO4
        refine (range_any bs L (T + 1) 1 3 _ hI0.out.st (by omega) (by omega) (by omega) (by omega)).mono ?_
        rw [show (3 : Int) - 1 + 1 = 3 from rfl, HM3.out]
        rintro e w6 ⟨rfl, hs6, hg6⟩
        have hI6 := hI0.call hs6 hg6
        clear hI0 hs6 hg6 hB
        go_wp2_with fail
        go_loopg [19] m (fun kk i wx => ∃ (q : Nat) (vH vR : Value), kk + q = m ∧ i = .int .i64 q ∧ InS Q w1 wx bs L (slotRun L (T + 2) q).1 u3 l B k vH vR vH vR (slotRun L (T + 2) q).2.1 (slotRun L (T + 2) q).2.2)
        case atStart => exact ⟨0, _, _, by omega, rfl, hI6⟩
        case round =>
          clear hI6
          obtain ⟨q, vH, vR, hq, rfl, hI⟩ := hrel
          have hsl := slotRun_t L (T + 2) q
          by_cases hlq : q < m
          · obtain ⟨x, hx⟩ : ∃ x, pk L (slotRun L (T + 2) q).1 [0, 1, 3, 10] = x := ⟨_, rfl⟩
            obtain ⟨y, hy⟩ : ∃ y, pk L ((slotRun L (T + 2) q).1 + 1) [0, 10, 40, 100, 1000] = y := ⟨_, rfl⟩
            have hsucc : slotRun L (T + 2) (q + 1) = ((slotRun L (T + 2) q).1 + 2, (slotRun L (T + 2) q).2.1 ++ [x], (slotRun L (T + 2) q).2.2 ++ [y]) := by rw [slotRun, hx, hy]
            generalize slotRun L (T + 2) q = S at *
            obtain ⟨T2, hs, rs⟩ := S
            simp only at hI hsl hx hy hsucc
            have hlqI : (q : Int) < (m : Int) := by omega
            obtain ⟨AH, cH, rfl, _, _, _, _⟩ := Rd.of_own hI.oh
            obtain ⟨AR, cR, rfl, _, _, _, _⟩ := Rd.of_own hI.orr
            have hbsS : bs < wr.heap.size := hI.out.st.lt
            have hId : iG Q w1 bs L T2 u3 l B k (.slice AH hs.length cH) (.slice AR rs.length cR) hs rs x y wr.heap.size false false false false undef undef wr.drew := ⟨hI.quiet (grown_drew (grown_refl _)), by simp, Nat.le_refl _⟩
            have hoH : ∀ j, (Value.slice AH hs.length cH).ownBlock = some j → j < wr.heap.size := fun j hj => (hI.oh.lt j hj).2
            have hoR : ∀ j, (Value.slice AR rs.length cR).ownBlock = some j → j < wr.heap.size := fun j hj => (hI.orr.lt j hj).2
            have hB1 := hI.blk.lt
            have HQ := Lib.hid (And.intro hsucc (And.intro hq (And.intro hx hy)))
            have hI' := Lib.hid hI
            have HSL := Lib.hid hsl
            clear hsucc hq hI hx hy hsl
            go_wp2_with fail
            refine region_split_at 17 _ _ rfl rfl (by kernel_rfl) (by kernel_rfl) (by kernel_rfl) (by kernel_rfl) (by kernel_rfl) ?_
            simp only [List.take_succ_cons, List.take_zero, List.size_toArray, List.length_cons, List.length_nil, Nat.reduceAdd]
            refine any_split_at 16 _ _ rfl rfl (by kernel_rfl) (by kernel_rfl) (by kernel_rfl) (by kernel_rfl) ?_
            simp only [List.take_succ_cons, List.take_zero, List.size_toArray, List.length_cons, List.length_nil, Nat.reduceAdd]
            refine any_split_at 15 _ _ rfl rfl (by kernel_rfl) (by kernel_rfl) (by kernel_rfl) (by kernel_rfl) ?_
            simp only [List.take_succ_cons, List.take_zero, List.size_toArray, List.length_cons, List.length_nil, Nat.reduceAdd]
            refine wpAny_facts (frame := ?fr) ?hfr (fun i => [u21, u22, u23, u24, u25, u26, u27, u28, u29, u30, u31, u32, u33, u34, u35].getD i undef) ?h0 (iF bs wr.heap.size B (.slice AH hs.length cH) (.slice AR rs.length cR) x y)
              (fun listed f w => iG Q w1 bs L T2 u3 l B k (.slice AH hs.length cH) (.slice AR rs.length cR) hs rs x y wr.heap.size (listed.getD 4 false) (listed.getD 6 false) (listed.getD 11 false) (listed.getD 13 false) (f 6) (f 13) w) (GrowS wr.heap.size) iF_stab ?hG (by kernel_rfl) ?hput ?hs ?hd
            case hfr =>
              intro f
              simp only [putsF, List.zipIdx_cons, List.zipIdx_nil, List.foldl_cons, List.foldl_nil, Nat.reduceAdd, Act.put, List.setIfInBounds_toArray, List.set_cons_zero, List.set_cons_succ]
              rfl
            case h0 => rfl
            case hG => exact ⟨hId.1, by simp, hId.2.2⟩
            case hput =>
              intro i o ho f v
              match i, ho with
              | 0, ho => simp only [List.getElem?_toArray, List.getElem?_cons_zero, Option.some.injEq] at ho; subst ho; rfl
              | 1, ho => simp only [List.getElem?_toArray, List.getElem?_cons_zero, List.getElem?_cons_succ, Option.some.injEq] at ho; subst ho; rfl
              | 2, ho => simp only [List.getElem?_toArray, List.getElem?_cons_zero, List.getElem?_cons_succ, Option.some.injEq] at ho; subst ho; rfl
              | 3, ho => simp only [List.getElem?_toArray, List.getElem?_cons_zero, List.getElem?_cons_succ, Option.some.injEq] at ho; subst ho; rfl
              | 4, ho => simp only [List.getElem?_toArray, List.getElem?_cons_zero, List.getElem?_cons_succ, Option.some.injEq] at ho; subst ho; rfl
              | 5, ho => simp only [List.getElem?_toArray, List.getElem?_cons_zero, List.getElem?_cons_succ, Option.some.injEq] at ho; subst ho; rfl
              | 6, ho => simp only [List.getElem?_toArray, List.getElem?_cons_zero, List.getElem?_cons_succ, Option.some.injEq] at ho; subst ho; rfl
              | 7, ho => simp only [List.getElem?_toArray, List.getElem?_cons_zero, List.getElem?_cons_succ, Option.some.injEq] at ho; subst ho; rfl
              | 8, ho => simp only [List.getElem?_toArray, List.getElem?_cons_zero, List.getElem?_cons_succ, Option.some.injEq] at ho; subst ho; rfl
              | 9, ho => simp only [List.getElem?_toArray, List.getElem?_cons_zero, List.getElem?_cons_succ, Option.some.injEq] at ho; subst ho; rfl
              | 10, ho => simp only [List.getElem?_toArray, List.getElem?_cons_zero, List.getElem?_cons_succ, Option.some.injEq] at ho; subst ho; rfl
              | 11, ho => simp only [List.getElem?_toArray, List.getElem?_cons_zero, List.getElem?_cons_succ, Option.some.injEq] at ho; subst ho; rfl
              | 12, ho => simp only [List.getElem?_toArray, List.getElem?_cons_zero, List.getElem?_cons_succ, Option.some.injEq] at ho; subst ho; rfl
              | 13, ho => simp only [List.getElem?_toArray, List.getElem?_cons_zero, List.getElem?_cons_succ, Option.some.injEq] at ho; subst ho; rfl
              | 14, ho => simp only [List.getElem?_toArray, List.getElem?_cons_zero, List.getElem?_cons_succ, Option.some.injEq] at ho; subst ho; rfl
              | n + 15, ho => simp at ho
            case hs =>
              intro i o ho listed f w2 hsz hun hG hpre K hK
              have hsz' : listed.size = 15 := by simpa using hsz
              dsimp only at hK ⊢
              match i, ho with
              | 0, ho =>
                simp only [List.getElem?_toArray, List.getElem?_cons_zero, Option.some.injEq] at ho
                subst ho
                go_simp
                exact hK (.pointer (some ⟨B, 1, none⟩)) _ (GrowS.none_ (grown_refl _)) (by simpa [getD_setT (show 0 < listed.size by omega), updF] using hG.quiet (grown_refl _)) rfl
              | 1, ho =>
                simp only [List.getElem?_toArray, List.getElem?_cons_zero, List.getElem?_cons_succ, Option.some.injEq] at ho
                subst ho
                have p0 := (hpre ⟨0, .data⟩ (by simp) rfl).2
                have e0 : f 0 = .pointer (some ⟨B, 1, none⟩) := p0
                have c1 := hG.1.blk.cell 1
                have c1' : w2.cell? ⟨B, 1, none⟩ = some (.slice AH hs.length cH) := c1
                clear c1
                rw [e0] at hK ⊢
                go_simp
                exact hK (.slice AH hs.length cH) _ (GrowS.none_ (grown_refl _)) (by simpa [getD_setT (show 1 < listed.size by omega), updF] using hG.quiet (grown_refl _)) rfl
              | 2, ho =>
                simp only [List.getElem?_toArray, List.getElem?_cons_zero, List.getElem?_cons_succ, Option.some.injEq] at ho
                subst ho
                go_simp
                exact hK (.pointer (some ⟨bs, 0, none⟩)) _ (GrowS.none_ (grown_refl _)) (by simpa [getD_setT (show 2 < listed.size by omega), updF] using hG.quiet (grown_refl _)) rfl
              | 3, ho =>
                simp only [List.getElem?_toArray, List.getElem?_cons_zero, List.getElem?_cons_succ, Option.some.injEq] at ho
                subst ho
                go_simp
                exact hK (.slice (some ⟨w2.heap.size, 0, none⟩) 4 4) _ (GrowS.none_ (grown_alloc (grown_refl _) _)) (by simpa [getD_setT (show 3 < listed.size by omega), updF] using hG.quiet (grown_alloc (grown_refl _) _)) (Lit.new w2 (ints [0, 1, 3, 10]).toArray 3 hG.2.2)
              | 4, ho =>
                simp only [List.getElem?_toArray, List.getElem?_cons_zero, List.getElem?_cons_succ, Option.some.injEq] at ho
                subst ho
                have p3 := (hpre ⟨3, .data⟩ (by simp) rfl).2
                have p2 := (hpre ⟨2, .data⟩ (by simp) rfl).2
                obtain ⟨N, e2, hrd, hN⟩ := p3
                have e1 : f 2 = .pointer (some ⟨bs, 0, none⟩) := p2
                have f4 := getD_ff hun
                have f6 : listed.getD 6 false = false := by
                  cases h : listed.getD 6 false with
                  | false => rfl
                  | true => have := hG.2.1.1 h; rw [f4] at this; cases this
                have f11 : listed.getD 11 false = false := by
                  cases h : listed.getD 11 false with
                  | false => rfl
                  | true => have := hG.2.1.2.1 h; rw [f6] at this; cases this
                have f13 : listed.getD 13 false = false := by
                  cases h : listed.getD 13 false with
                  | false => rfl
                  | true => have := hG.2.1.2.2 h; rw [f11] at this; cases this
                rw [f4, f6, f11, f13] at hG
                rw [e1, e2] at hK ⊢
                go_simp
                have hsl := HSL.out
                refine (pick_any bs L (T2) (some ⟨N, 0, none⟩) 4 [0, 1, 3, 10] w2 hG.1.out.st (by omega) (by decide) (by decide) hrd (by intro a e; cases e; simp; omega)).mono ?_
                rintro e w5 ⟨rfl, hs5, hg5⟩
                dsimp only
                refine hK (.int .i64 ([0, 1, 3, 10].getD (nx L (T2) 4).toNat 0)) w5 (GrowS.some_ hg5 hbsS) ?_ ?_
                · rw [getD_setT (by omega), getD_setT (by omega), getD_setT (by omega), getD_setT (by omega), if_pos rfl, if_neg (by decide), if_neg (by decide), if_neg (by decide), f6, f11, f13]
                  exact ⟨hG.1.call hs5 hg5, by simp, Nat.le_trans hG.2.2 hg5.size⟩
                · exact congrArg (Value.int .i64) HQ.out.2.2.1
              | 5, ho =>
                simp only [List.getElem?_toArray, List.getElem?_cons_zero, List.getElem?_cons_succ, Option.some.injEq] at ho
                subst ho
                have p4 := (hpre ⟨4, .data⟩ (by simp) rfl).2
                have e4 : f 4 = .int .i64 x := p4
                rw [e4] at hK ⊢
                go_simp
                exact hK (.slice (some ⟨w2.heap.size, 0, none⟩) 1 1) _ (GrowS.none_ (grown_alloc (grown_refl _) _)) (by simpa [getD_setT (show 5 < listed.size by omega), updF] using hG.quiet (grown_alloc (grown_refl _) _)) (One1.new w2 x 3 hG.2.2)
              | 6, ho =>
                simp only [List.getElem?_toArray, List.getElem?_cons_zero, List.getElem?_cons_succ, Option.some.injEq] at ho
                subst ho
                have p1 := (hpre ⟨1, .data⟩ (by simp) rfl).2
                have p5 := (hpre ⟨5, .data⟩ (by simp) rfl).2
                have f4 := (hpre ⟨4, .chain⟩ (by simp) rfl).1
                obtain ⟨N, e5, hN, hcN⟩ := p5
                have e1 : f 1 = .slice AH hs.length cH := p1
                have f6 := getD_ff hun
                have f11 : listed.getD 11 false = false := by
                  cases h : listed.getD 11 false with
                  | false => rfl
                  | true => have := hG.2.1.2.1 h; rw [f6] at this; cases this
                have f13 : listed.getD 13 false = false := by
                  cases h : listed.getD 13 false with
                  | false => rfl
                  | true => have := hG.2.1.2.2 h; rw [f11] at this; cases this
                rw [f4, f6, f11, f13] at hG
                have hI2 := hG.1
                simp only [if_false, Bool.false_eq_true] at hI2
                have hsl := HSL.out
                refine st_int_lies (by rfl) _ _ (by rfl) w1.heap.size (.slice AH hs.length cH) hs x N (by exact e1) hI2.oh (by exact e5) hcN (by omega) hI2.out.gro.size ?_
                intro g cap w7 hown7 hg7 hb7
                refine hK (.slice (some ⟨g, 0, none⟩) (hs.length + 1) cap) w7 ⟨_, hg7, hoH⟩ ?_ ⟨_, _, _, rfl⟩
                rw [getD_setT (by omega), getD_setT (by omega), getD_setT (by omega), getD_setT (by omega), if_neg (by decide), if_pos rfl, if_neg (by decide), if_neg (by decide), f4, f11, f13]
                exact ⟨hI2.appH hown7 hg7 hb7, by simp, Nat.le_trans hG.2.2 hg7.size⟩
              | 7, ho =>
                simp only [List.getElem?_toArray, List.getElem?_cons_zero, List.getElem?_cons_succ, Option.some.injEq] at ho
                subst ho
                go_simp
                exact hK (.pointer (some ⟨B, 2, none⟩)) _ (GrowS.none_ (grown_refl _)) (by simpa [getD_setT (show 7 < listed.size by omega), updF] using hG.quiet (grown_refl _)) rfl
              | 8, ho =>
                simp only [List.getElem?_toArray, List.getElem?_cons_zero, List.getElem?_cons_succ, Option.some.injEq] at ho
                subst ho
                have p7 := (hpre ⟨7, .data⟩ (by simp) rfl).2
                have e0 : f 7 = .pointer (some ⟨B, 2, none⟩) := p7
                have c1 := hG.1.blk.cell 2
                have c1' : w2.cell? ⟨B, 2, none⟩ = some (.slice AR rs.length cR) := c1
                clear c1
                rw [e0] at hK ⊢
                go_simp
                exact hK (.slice AR rs.length cR) _ (GrowS.none_ (grown_refl _)) (by simpa [getD_setT (show 8 < listed.size by omega), updF] using hG.quiet (grown_refl _)) rfl
              | 9, ho =>
                simp only [List.getElem?_toArray, List.getElem?_cons_zero, List.getElem?_cons_succ, Option.some.injEq] at ho
                subst ho
                go_simp
                exact hK (.pointer (some ⟨bs, 0, none⟩)) _ (GrowS.none_ (grown_refl _)) (by simpa [getD_setT (show 9 < listed.size by omega), updF] using hG.quiet (grown_refl _)) rfl
              | 10, ho =>
                simp only [List.getElem?_toArray, List.getElem?_cons_zero, List.getElem?_cons_succ, Option.some.injEq] at ho
                subst ho
                go_simp
                exact hK (.slice (some ⟨w2.heap.size, 0, none⟩) 5 5) _ (GrowS.none_ (grown_alloc (grown_refl _) _)) (by simpa [getD_setT (show 10 < listed.size by omega), updF] using hG.quiet (grown_alloc (grown_refl _) _)) (Lit.new w2 (ints [0, 10, 40, 100, 1000]).toArray 3 hG.2.2)
              | 11, ho =>
                simp only [List.getElem?_toArray, List.getElem?_cons_zero, List.getElem?_cons_succ, Option.some.injEq] at ho
                subst ho
                have p10 := (hpre ⟨10, .data⟩ (by simp) rfl).2
                have p9 := (hpre ⟨9, .data⟩ (by simp) rfl).2
                obtain ⟨N, e2, hrd, hN⟩ := p10
                have e1 : f 9 = .pointer (some ⟨bs, 0, none⟩) := p9
                have f6 := (hpre ⟨6, .chain⟩ (by simp) rfl).1
                have f4 := hG.2.1.1 f6
                have f11 := getD_ff hun
                have f13 : listed.getD 13 false = false := by
                  cases h : listed.getD 13 false with
                  | false => rfl
                  | true => have := hG.2.1.2.2 h; rw [f11] at this; cases this
                rw [f4, f6, f11, f13] at hG
                rw [e1, e2] at hK ⊢
                go_simp
                have hsl := HSL.out
                refine (pick_any bs L (T2 + 1) (some ⟨N, 0, none⟩) 5 [0, 10, 40, 100, 1000] w2 hG.1.out.st (by omega) (by decide) (by decide) hrd (by intro a e; cases e; simp; omega)).mono ?_
                rintro e w5 ⟨rfl, hs5, hg5⟩
                dsimp only
                refine hK (.int .i64 ([0, 10, 40, 100, 1000].getD (nx L (T2 + 1) 5).toNat 0)) w5 (GrowS.some_ hg5 hbsS) ?_ ?_
                · rw [getD_setT (by omega), getD_setT (by omega), getD_setT (by omega), getD_setT (by omega), if_neg (by decide), if_neg (by decide), if_pos rfl, if_neg (by decide), f4, f6, f13]
                  exact ⟨hG.1.call hs5 hg5, by simp, Nat.le_trans hG.2.2 hg5.size⟩
                · exact congrArg (Value.int .i64) HQ.out.2.2.2
              | 12, ho =>
                simp only [List.getElem?_toArray, List.getElem?_cons_zero, List.getElem?_cons_succ, Option.some.injEq] at ho
                subst ho
                have p11 := (hpre ⟨11, .data⟩ (by simp) rfl).2
                have e4 : f 11 = .int .i64 y := p11
                rw [e4] at hK ⊢
                go_simp
                exact hK (.slice (some ⟨w2.heap.size, 0, none⟩) 1 1) _ (GrowS.none_ (grown_alloc (grown_refl _) _)) (by simpa [getD_setT (show 12 < listed.size by omega), updF] using hG.quiet (grown_alloc (grown_refl _) _)) (One1.new w2 y 3 hG.2.2)
              | 13, ho =>
                simp only [List.getElem?_toArray, List.getElem?_cons_zero, List.getElem?_cons_succ, Option.some.injEq] at ho
                subst ho
                have p8 := (hpre ⟨8, .data⟩ (by simp) rfl).2
                have p12 := (hpre ⟨12, .data⟩ (by simp) rfl).2
                have f11 := (hpre ⟨11, .chain⟩ (by simp) rfl).1
                obtain ⟨N, e5, hN, hcN⟩ := p12
                have e1 : f 8 = .slice AR rs.length cR := p8
                have f6 := hG.2.1.2.1 f11
                have f4 := hG.2.1.1 f6
                have f13 := getD_ff hun
                rw [f4, f6, f11, f13] at hG
                have hI2 := hG.1
                simp only [if_true, if_false, Bool.false_eq_true] at hI2
                have hsl := HSL.out
                refine st_int_lies (by rfl) _ _ (by rfl) w1.heap.size (.slice AR rs.length cR) rs y N (by exact e1) hI2.orr (by exact e5) hcN (by omega) hI2.out.gro.size ?_
                intro g cap w7 hown7 hg7 hb7
                refine hK (.slice (some ⟨g, 0, none⟩) (rs.length + 1) cap) w7 ⟨_, hg7, hoR⟩ ?_ ⟨_, _, _, rfl⟩
                rw [getD_setT (by omega), getD_setT (by omega), getD_setT (by omega), getD_setT (by omega), if_neg (by decide), if_neg (by decide), if_neg (by decide), if_pos rfl, f4, f6, f11]
                exact ⟨hI2.appR hown7 hg7 hb7, by simp, Nat.le_trans hG.2.2 hg7.size⟩
              | 14, ho =>
                simp only [List.getElem?_toArray, List.getElem?_cons_zero, List.getElem?_cons_succ, Option.some.injEq] at ho
                subst ho
                go_simp
                exact hK (.pointer (some ⟨B, 1, none⟩)) _ (GrowS.none_ (grown_refl _)) (by simpa [getD_setT (show 14 < listed.size by omega), updF] using hG.quiet (grown_refl _)) rfl
              | n + 15, ho => simp at ho
            case hd =>
              intro listed f w2 hall hG hF
              have f13 := hall 13 (by simp)
              have f11 := hall 11 (by simp)
              have f6 := hall 6 (by simp)
              have f4 := hall 4 (by simp)
              rw [f4, f6, f11, f13] at hG
              have hI2 := hG.1
              simp only [if_true] at hI2
              have e14 : f 14 = .pointer (some ⟨B, 1, none⟩) := hF 14 (by simp)
              obtain ⟨A6, n6, c6, e6⟩ := (hF 6 (by simp) : iF bs wr.heap.size B (.slice AH hs.length cH) (.slice AR rs.length cR) x y 6 w2 (f 6))
              obtain ⟨A13, n13, c13, e13⟩ := (hF 13 (by simp) : iF bs wr.heap.size B (.slice AH hs.length cH) (.slice AR rs.length cR) x y 13 w2 (f 13))
              rw [e6, e13] at hI2
              have b1 := hI2.blk.cell 1
              have g1 := hI2.blk.frozen 1
              have hI3 := hI2.set_ 1 (.slice A6 n6 c6) (.slice A6 n6 c6) (.slice AR rs.length cR) rfl
              have b2 := hI3.blk.cell 2
              have g2 := hI3.blk.frozen 2
              have hI4 := hI3.set_ 2 (.slice A13 n13 c13) (.slice A6 n6 c6) (.slice A13 n13 c13) rfl
              have b1' : w2.cell? ⟨B, 1, none⟩ = some (.slice AH hs.length cH) := b1
              have hbq := hI2.blk.cell 2
              have g2q := hI2.blk.frozen 2
              have b2' : w2.cell? ⟨B, 2, none⟩ = some (.slice AR rs.length cR) := hbq
              have HI4 := Lib.hid hI4
              clear hI4 hI3 hI2 hG hF hall b1 b2 g2 hbq
              rw [e14, e6, e13]
              show wpList _ _ _ _ _ _
              go_wp2_with fail
              show wpList _ _ _ _ _ _
              go_wp2_with fail
              show wpList _ _ _ _ _ _
              go_wp2_with fail
              have hq := HQ.out.2.1
              go_roundg (gk - 1)
              case measure => omega
              case rel => exact ⟨q + 1, _, _, by omega, by go_num, by rw [HQ.out.1]; exact HI4.out⟩
          · obtain rfl : q = m := by omega
            have hst2 := hsl.1
            obtain ⟨A2, c2, rfl, _, _, hr2, hb2⟩ := Rd.of_own hI.oh
            obtain ⟨A3, c3, rfl, _, _, hr3, hb3⟩ := Rd.of_own hI.orr
            have hS2 := HS.out
            generalize slotRun L (T + 2) q = S at *
            obtain ⟨T2, hs, rs⟩ := S
            simp only at hI hsl hr2 hr3 hS2
            have HS2 := Lib.hid hS2
            have k0 : wr.cell? ⟨B, 0, none⟩ = some (.string k) := hI.blk.cell 0
            have k1 : wr.cell? ⟨B, 1, none⟩ = some (.slice A2 hs.length c2) := hI.blk.cell 1
            have k2 : wr.cell? ⟨B, 2, none⟩ = some (.slice A3 rs.length c3) := hI.blk.cell 2
            have hgW := grown_alloc (grown_refl wr) (.cells #[.string k, .slice A2 hs.length c2, .slice A3 rs.length c3] 75)
            have hOW := hI.out.quiet hgW
            have hblk' : Blk (wr.alloc (.cells #[.string k, .slice A2 hs.length c2, .slice A3 rs.length c3] 75)) wr.heap.size 75 (srCells ⟨k, A2, hs.length, c2, A3, rs.length, c3, hs, rs⟩).toArray := Blk.new wr _ _
            have hSr : SrOk (wr.alloc (.cells #[.string k, .slice A2 hs.length c2, .slice A3 rs.length c3] 75)) w1.heap.size ⟨k, A2, hs.length, c2, A3, rs.length, c3, hs, rs⟩ := ⟨⟨hr2.grown hgW, hb2⟩, hr3.grown hgW, hb3⟩
            have hr2' : ∀ a, inSr ⟨k, A2, hs.length, c2, A3, rs.length, c3, hs, rs⟩ a → a.block < (wr.alloc (.cells #[.string k, .slice A2 hs.length c2, .slice A3 rs.length c3] 75)).heap.size ∧ u3.ownBlock ≠ some a.block := by
              rintro a (ha | ha)
              · have e : (Value.slice A2 hs.length c2).ownBlock = some a.block := by simp only at ha; rw [ha]; rfl
                exact ⟨Nat.lt_of_lt_of_le (hI.oh.lt _ e).2 hgW.size, own_tyne hI.out.own hI.oh (by decide) _ e⟩
              · have e : (Value.slice A3 rs.length c3).ownBlock = some a.block := by simp only at ha; rw [ha]; rfl
                exact ⟨Nat.lt_of_lt_of_le (hI.orr.lt _ e).2 hgW.size, own_tyne hI.out.own hI.orr (by decide) _ e⟩
            have hszW := hOW.gro.size
            have hown := hOW.own
            have hlq9 : l.length ≤ 1000000000 := by omega
            have HW := Lib.hid (And.intro hOW (And.intro hSr hr2'))
            have HSL := Lib.hid hsl
            clear hI hr2 hr3 hb2 hb3 hS2 hgW hOW hSr hr2' hsl
            go_wp2_with (at_builtin; refine ap_sit_lies rfl _ _ rfl w1.heap.size u3 l ⟨k, A2, hs.length, c2, A3, rs.length, c3, hs, rs⟩ wr.heap.size rfl hown rfl hblk' hlq9 hszW ?_; intro g cap w7 hown7 hg7 hb7)
            have hO7 := HW.out.1.app HW.out.2.1 HW.out.2.2 hown7 hg7 hb7
            have hj := HL.out.2.2.1
            have hko := HL.out.2.2.2
            go_roundg (ko - 1)
            case measure => omega
            case rel => exact ⟨j + 1, l ++ [⟨k, A2, hs.length, c2, A3, rs.length, c3, hs, rs⟩], by omega, by go_num, by rw [HS2.out, List.map_append, HL.out.1]; rfl, by rw [HS2.out]; exact hO7⟩
    · obtain rfl : j = 4 := by omega
      have hlen : l.length ≤ 4 := by have := congrArg List.length hl; simp at this; omega
      obtain ⟨T, hT⟩ : ∃ T, (sitRun L t 4).1 = T := ⟨_, rfl⟩
      rw [hT] at hO hb4
      have HL := Lib.hid (And.intro hl hT)
      clear hl hlt hj hT
      go_wp2_with fail
      refine (flip_any bs L T 15 _ hO.st (by omega) (by omega)).mono ?_
      rintro e w4 ⟨rfl, hs4, hg4⟩
      have hO4 := hO.call hs4 hg4
      clear hO hs4 hg4
      by_cases hf : (nx L T 15 == 0) = true
      · rw [hf]
        have HF := Lib.hid hf
        clear hf
        go_wp2_with fail
        have hO5 : OutS Q w1 w4.drew bs L (T + 1) u3 l := hO4.quiet (grown_drew (grown_refl _))
        have hS0 : w4.heap.size ≤ w4.drew.heap.size := Nat.le_refl _
        have hbs4 : bs < w4.heap.size := hO5.st.lt
        obtain ⟨a0, a1⟩ := nx_in L (T + 1 + 1) 4 (by omega)
        obtain ⟨b0, b1⟩ := nx_in L (T + 1 + 2) 3 (by omega)
        obtain ⟨k1, hk1⟩ := Int.eq_ofNat_of_zero_le a0
        obtain ⟨k2, hk2⟩ := Int.eq_ofNat_of_zero_le b0
        have hk1' : k1 < 4 := by omega
        have hk2' : k2 < 3 := by omega
        have hk1I : (k1 : Int) < 4 := by omega
        have hk2I : (k2 : Int) < 3 := by omega
        clear a0 a1 b0 b1
        refine region_split_at 22 _ _ rfl rfl (by kernel_rfl) (by kernel_rfl) (by kernel_rfl) (by kernel_rfl) (by kernel_rfl) ?_
        simp only [List.take_succ_cons, List.take_zero, List.size_toArray, List.length_cons, List.length_nil, Nat.reduceAdd]
        refine any_split_at 21 _ _ rfl rfl (by kernel_rfl) (by kernel_rfl) (by kernel_rfl) (by kernel_rfl) ?_
        simp only [List.take_succ_cons, List.take_zero, List.size_toArray, List.length_cons, List.length_nil, Nat.reduceAdd]
        refine wpAny_facts (frame := ?frb) ?hfrb (fun _ => undef) ?h0b (sF L (T + 1) bs w4.heap.size u3)
          (fun listed _ w => sG Q w1 L (T + 1) bs w4.heap.size u3 l (listed.getD 3 false) (listed.getD 9 false) (listed.getD 16 false) w) (GrowS w4.heap.size) sF_stab ?hGb (by kernel_rfl) ?hputb ?hsb ?hdb
        case hfrb =>
          intro f
          simp only [putsF, List.zipIdx_cons, List.zipIdx_nil, List.foldl_cons, List.foldl_nil, Nat.reduceAdd, Act.put, List.setIfInBounds_toArray, List.set_cons_zero, List.set_cons_succ]
          rfl
        case h0b => rfl
        case hGb => exact ⟨hO5, by simp, by simp, hS0⟩
        case hputb =>
          intro i o ho f v
          match i, ho with
          | 0, ho => simp only [List.getElem?_toArray, List.getElem?_cons_zero, Option.some.injEq] at ho; subst ho; rfl
          | 1, ho => simp only [List.getElem?_toArray, List.getElem?_cons_zero, List.getElem?_cons_succ, Option.some.injEq] at ho; subst ho; rfl
          | 2, ho => simp only [List.getElem?_toArray, List.getElem?_cons_zero, List.getElem?_cons_succ, Option.some.injEq] at ho; subst ho; rfl
          | 3, ho => simp only [List.getElem?_toArray, List.getElem?_cons_zero, List.getElem?_cons_succ, Option.some.injEq] at ho; subst ho; rfl
          | 4, ho => simp only [List.getElem?_toArray, List.getElem?_cons_zero, List.getElem?_cons_succ, Option.some.injEq] at ho; subst ho; rfl
          | 5, ho => simp only [List.getElem?_toArray, List.getElem?_cons_zero, List.getElem?_cons_succ, Option.some.injEq] at ho; subst ho; rfl
          | 6, ho => simp only [List.getElem?_toArray, List.getElem?_cons_zero, List.getElem?_cons_succ, Option.some.injEq] at ho; subst ho; rfl
          | 7, ho => simp only [List.getElem?_toArray, List.getElem?_cons_zero, List.getElem?_cons_succ, Option.some.injEq] at ho; subst ho; rfl
          | 8, ho => simp only [List.getElem?_toArray, List.getElem?_cons_zero, List.getElem?_cons_succ, Option.some.injEq] at ho; subst ho; rfl
          | 9, ho => simp only [List.getElem?_toArray, List.getElem?_cons_zero, List.getElem?_cons_succ, Option.some.injEq] at ho; subst ho; rfl
          | 10, ho => simp only [List.getElem?_toArray, List.getElem?_cons_zero, List.getElem?_cons_succ, Option.some.injEq] at ho; subst ho; rfl
          | 11, ho => simp only [List.getElem?_toArray, List.getElem?_cons_zero, List.getElem?_cons_succ, Option.some.injEq] at ho; subst ho; rfl
          | 12, ho => simp only [List.getElem?_toArray, List.getElem?_cons_zero, List.getElem?_cons_succ, Option.some.injEq] at ho; subst ho; rfl
          | 13, ho => simp only [List.getElem?_toArray, List.getElem?_cons_zero, List.getElem?_cons_succ, Option.some.injEq] at ho; subst ho; rfl
          | 14, ho => simp only [List.getElem?_toArray, List.getElem?_cons_zero, List.getElem?_cons_succ, Option.some.injEq] at ho; subst ho; rfl
          | 15, ho => simp only [List.getElem?_toArray, List.getElem?_cons_zero, List.getElem?_cons_succ, Option.some.injEq] at ho; subst ho; rfl
          | 16, ho => simp only [List.getElem?_toArray, List.getElem?_cons_zero, List.getElem?_cons_succ, Option.some.injEq] at ho; subst ho; rfl
          | 17, ho => simp only [List.getElem?_toArray, List.getElem?_cons_zero, List.getElem?_cons_succ, Option.some.injEq] at ho; subst ho; rfl
          | 18, ho => simp only [List.getElem?_toArray, List.getElem?_cons_zero, List.getElem?_cons_succ, Option.some.injEq] at ho; subst ho; rfl
          | 19, ho => simp only [List.getElem?_toArray, List.getElem?_cons_zero, List.getElem?_cons_succ, Option.some.injEq] at ho; subst ho; rfl
          | 20, ho => simp only [List.getElem?_toArray, List.getElem?_cons_zero, List.getElem?_cons_succ, Option.some.injEq] at ho; subst ho; rfl
          | n + 21, ho => simp at ho
        case hsb =>
          intro i o ho listed f w2 hsz hun hG hpre K hK
          have hsz' : listed.size = 21 := by simpa using hsz
          dsimp only at hK ⊢
          match i, ho with
          | 0, ho =>
            simp only [List.getElem?_toArray, List.getElem?_cons_zero, Option.some.injEq] at ho
            subst ho
            go_simp
            exact hK (u3) _ (GrowS.none_ (grown_refl _)) (by simpa [getD_setT (show 0 < listed.size by omega)] using hG.quiet (grown_refl _)) rfl
          | 1, ho =>
            simp only [List.getElem?_toArray, List.getElem?_cons_zero, List.getElem?_cons_succ, Option.some.injEq] at ho
            subst ho
            go_simp
            exact hK (.pointer (some ⟨bs, 0, none⟩)) _ (GrowS.none_ (grown_refl _)) (by simpa [getD_setT (show 1 < listed.size by omega)] using hG.quiet (grown_refl _)) rfl
          | 2, ho =>
            simp only [List.getElem?_toArray, List.getElem?_cons_zero, List.getElem?_cons_succ, Option.some.injEq] at ho
            subst ho
            go_simp
            exact hK (.slice (some ⟨w2.heap.size, 0, none⟩) 3 3) _ (GrowS.none_ (grown_alloc (grown_refl _) _)) (by simpa [getD_setT (show 2 < listed.size by omega)] using hG.quiet (grown_alloc (grown_refl _) _)) (Lit.new w2 (strs wKs).toArray 9 hG.2.2.2)
          | 3, ho =>
            simp only [List.getElem?_toArray, List.getElem?_cons_zero, List.getElem?_cons_succ, Option.some.injEq] at ho
            subst ho
            have p1 := (hpre ⟨1, .data⟩ (by simp) rfl).2
            have p2 := (hpre ⟨2, .data⟩ (by simp) rfl).2
            obtain ⟨N, e2, hrd, hN⟩ := p2
            have e1 : f 1 = .pointer (some ⟨bs, 0, none⟩) := p1
            have f3 := getD_ff hun
            have f9 : listed.getD 9 false = false := by cases h : listed.getD 9 false with
              | false => rfl
              | true => have := hG.2.1 h; rw [f3] at this; cases this
            have f16 : listed.getD 16 false = false := by cases h : listed.getD 16 false with
              | false => rfl
              | true => have := hG.2.2.1 h; rw [f9] at this; cases this
            rw [f3, f9, f16] at hG
            rw [e1, e2] at hK ⊢
            go_simp
            refine (one_any bs L (T + 1) (some ⟨N, 0, none⟩) 3 wKs w2 hG.1.st (by omega) (by decide) (by decide) hrd (by intro a e; cases e; simp; omega)).mono ?_
            rintro e w5 ⟨rfl, hs5, hg5⟩
            dsimp only
            exact hK (.string (pkS L (T + 1) wKs)) w5 (GrowS.some_ hg5 hbs4) (by rw [getD_setT (by omega), getD_setT (by omega), getD_setT (by omega), if_pos rfl, if_neg (by decide), if_neg (by decide), f9, f16]; exact ⟨hG.1.call hs5 hg5, by simp, by simp, Nat.le_trans hG.2.2.2 hg5.size⟩) rfl
          | 4, ho =>
            simp only [List.getElem?_toArray, List.getElem?_cons_zero, List.getElem?_cons_succ, Option.some.injEq] at ho
            subst ho
            go_simp
            exact hK (.slice (some ⟨w2.heap.size, 0, none⟩) 1 1) _ (GrowS.none_ (grown_alloc (grown_refl _) _)) (by simpa [getD_setT (show 4 < listed.size by omega)] using hG.quiet (grown_alloc (grown_refl _) _)) (Gd.new w2 5 3 hG.2.2.2)
          | 5, ho =>
            simp only [List.getElem?_toArray, List.getElem?_cons_zero, List.getElem?_cons_succ, Option.some.injEq] at ho
            subst ho
            go_simp
            exact hK (.slice (some ⟨w2.heap.size, 0, none⟩) 1 1) _ (GrowS.none_ (grown_alloc (grown_refl _) _)) (by simpa [getD_setT (show 5 < listed.size by omega)] using hG.quiet (grown_alloc (grown_refl _) _)) (Gd.new w2 (-1) 3 hG.2.2.2)
          | 6, ho =>
            simp only [List.getElem?_toArray, List.getElem?_cons_zero, List.getElem?_cons_succ, Option.some.injEq] at ho
            subst ho
            go_simp
            exact hK (.slice (some ⟨w2.heap.size, 0, none⟩) 1 1) _ (GrowS.none_ (grown_alloc (grown_refl _) _)) (by simpa [getD_setT (show 6 < listed.size by omega)] using hG.quiet (grown_alloc (grown_refl _) _)) (Gd.new w2 10001 3 hG.2.2.2)
          | 7, ho =>
            simp only [List.getElem?_toArray, List.getElem?_cons_zero, List.getElem?_cons_succ, Option.some.injEq] at ho
            subst ho
            have p4 := (hpre ⟨4, .data⟩ (by simp) rfl).2
            have p5 := (hpre ⟨5, .data⟩ (by simp) rfl).2
            have p6 := (hpre ⟨6, .data⟩ (by simp) rfl).2
            have q4 := p4
            have q5 := p5
            have q6 := p6
            obtain ⟨A4, n4, c4, e4, _, _⟩ := p4
            obtain ⟨A5, n5, c5, e5, _, _⟩ := p5
            obtain ⟨A6, n6, c6, e6, _, _⟩ := p6
            rw [e4] at q4
            rw [e5] at q5
            rw [e6] at q6
            rw [e4, e5, e6] at hK ⊢
            go_simp
            refine hK (.slice (some ⟨w2.heap.size, 0, none⟩) 4 4) _ (GrowS.none_ (grown_alloc (grown_refl _) _)) (by simpa [getD_setT (show 7 < listed.size by omega)] using hG.quiet (grown_alloc (grown_refl _) _)) ⟨[.slice none 0 0, .slice A4 n4 c4, .slice A5 n5 c5, .slice A6 n6 c6], rfl, Lit.new w2 #[.slice none 0 0, .slice A4 n4 c4, .slice A5 n5 c5, .slice A6 n6 c6] _ hG.2.2.2, fun j u hu => ?_⟩
            match j, hu with
            | 0, hu => simp at hu; subst hu; exact Gd.nil_ _ _
            | 1, hu => simp at hu; subst hu; exact Gd.stab q4 (GrowS.none_ (grown_alloc (grown_refl _) _))
            | 2, hu => simp at hu; subst hu; exact Gd.stab q5 (GrowS.none_ (grown_alloc (grown_refl _) _))
            | 3, hu => simp at hu; subst hu; exact Gd.stab q6 (GrowS.none_ (grown_alloc (grown_refl _) _))
            | _ + 4, hu => simp at hu
          | 8, ho =>
            simp only [List.getElem?_toArray, List.getElem?_cons_zero, List.getElem?_cons_succ, Option.some.injEq] at ho
            subst ho
            go_simp
            exact hK (.pointer (some ⟨bs, 0, none⟩)) _ (GrowS.none_ (grown_refl _)) (by simpa [getD_setT (show 8 < listed.size by omega)] using hG.quiet (grown_refl _)) rfl
          | 9, ho =>
            simp only [List.getElem?_toArray, List.getElem?_cons_zero, List.getElem?_cons_succ, Option.some.injEq] at ho
            subst ho
            have p8 := (hpre ⟨8, .data⟩ (by simp) rfl).2
            have e8 : f 8 = .pointer (some ⟨bs, 0, none⟩) := p8
            have f3 := (hpre ⟨3, .chain⟩ (by simp) rfl).1
            have f9 := getD_ff hun
            have f16 : listed.getD 16 false = false := by cases h : listed.getD 16 false with
              | false => rfl
              | true => have := hG.2.2.1 h; rw [f9] at this; cases this
            rw [f3, f9, f16] at hG
            rw [e8] at hK ⊢
            go_simp
            refine (next_any bs L (T + 1 + 1) 4 w2 hG.1.st (by omega) (by omega)).mono ?_
            rintro e w5 ⟨rfl, hs5, hg5⟩
            dsimp only
            exact hK (.int .i64 (nx L (T + 1 + 1) 4)) w5 (GrowS.some_ hg5 hbs4) (by rw [getD_setT (by omega), getD_setT (by omega), getD_setT (by omega), if_neg (by decide), if_pos rfl, if_neg (by decide), f3, f16]; exact ⟨hG.1.call hs5 hg5, by simp, by simp, Nat.le_trans hG.2.2.2 hg5.size⟩) rfl
          | 10, ho =>
            simp only [List.getElem?_toArray, List.getElem?_cons_zero, List.getElem?_cons_succ, Option.some.injEq] at ho
            subst ho
            have p7 := (hpre ⟨7, .data⟩ (by simp) rfl).2
            have p9 := (hpre ⟨9, .data⟩ (by simp) rfl).2
            obtain ⟨us, hul, ⟨N, e7, hrd, hN⟩, hus⟩ := p7
            have e9 : f 9 = .int .i64 (k1 : Int) := by rw [← hk1]; exact p9
            rw [hul] at e7 hrd
            obtain ⟨b0, o0, eN, hbN, hcN⟩ := hrd.2 (by omega)
            cases eN
            have hug : us[k1]? = some (us[k1]'(by omega)) := List.getElem?_eq_getElem _
            generalize us[k1]'(by omega) = u at hug
            have hcu := hcN _ u hug
            rw [Nat.zero_add] at hcu
            rw [e7, e9] at hK ⊢
            go_simp
            exact hK (.pointer (some ⟨N, k1, none⟩)) _ (GrowS.none_ (grown_refl _)) (by simpa [getD_setT (show 10 < listed.size by omega)] using hG.quiet (grown_refl _)) (by show ∃ N u, _; rw [hk1, Int.toNat_natCast]; exact ⟨N, u, rfl, hN, hbN, hcu, hus _ u hug⟩)
          | 11, ho =>
            simp only [List.getElem?_toArray, List.getElem?_cons_zero, List.getElem?_cons_succ, Option.some.injEq] at ho
            subst ho
            have p10 := (hpre ⟨10, .data⟩ (by simp) rfl).2
            obtain ⟨N, u, e10, hN, hNl, hcu, hu⟩ := p10
            rw [hk1, Int.toNat_natCast] at e10 hcu
            have hu' := hu
            obtain ⟨Au, nu, cu, eu, _, _⟩ := hu'
            rw [eu] at hcu hu
            rw [e10] at hK ⊢
            go_simp
            exact hK (.slice Au nu cu) _ (GrowS.none_ (grown_refl _)) (by simpa [getD_setT (show 11 < listed.size by omega)] using hG.quiet (grown_refl _)) hu
          | 12, ho =>
            simp only [List.getElem?_toArray, List.getElem?_cons_zero, List.getElem?_cons_succ, Option.some.injEq] at ho
            subst ho
            go_simp
            exact hK (.slice (some ⟨w2.heap.size, 0, none⟩) 1 1) _ (GrowS.none_ (grown_alloc (grown_refl _) _)) (by simpa [getD_setT (show 12 < listed.size by omega)] using hG.quiet (grown_alloc (grown_refl _) _)) (Gd.new w2 5 3 hG.2.2.2)
          | 13, ho =>
            simp only [List.getElem?_toArray, List.getElem?_cons_zero, List.getElem?_cons_succ, Option.some.injEq] at ho
            subst ho
            go_simp
            exact hK (.slice (some ⟨w2.heap.size, 0, none⟩) 1 1) _ (GrowS.none_ (grown_alloc (grown_refl _) _)) (by simpa [getD_setT (show 13 < listed.size by omega)] using hG.quiet (grown_alloc (grown_refl _) _)) (Gd.new w2 1000001 3 hG.2.2.2)
          | 14, ho =>
            simp only [List.getElem?_toArray, List.getElem?_cons_zero, List.getElem?_cons_succ, Option.some.injEq] at ho
            subst ho
            have p12 := (hpre ⟨12, .data⟩ (by simp) rfl).2
            have p13 := (hpre ⟨13, .data⟩ (by simp) rfl).2
            have q4 := p12
            have q5 := p13
            obtain ⟨A4, n4, c4, e4, _, _⟩ := p12
            obtain ⟨A5, n5, c5, e5, _, _⟩ := p13
            rw [e4] at q4
            rw [e5] at q5
            rw [e4, e5] at hK ⊢
            go_simp
            refine hK (.slice (some ⟨w2.heap.size, 0, none⟩) 3 3) _ (GrowS.none_ (grown_alloc (grown_refl _) _)) (by simpa [getD_setT (show 14 < listed.size by omega)] using hG.quiet (grown_alloc (grown_refl _) _)) ⟨[.slice none 0 0, .slice A4 n4 c4, .slice A5 n5 c5], rfl, Lit.new w2 #[.slice none 0 0, .slice A4 n4 c4, .slice A5 n5 c5] _ hG.2.2.2, fun j u hu => ?_⟩
            match j, hu with
            | 0, hu => simp at hu; subst hu; exact Gd.nil_ _ _
            | 1, hu => simp at hu; subst hu; exact Gd.stab q4 (GrowS.none_ (grown_alloc (grown_refl _) _))
            | 2, hu => simp at hu; subst hu; exact Gd.stab q5 (GrowS.none_ (grown_alloc (grown_refl _) _))
            | _ + 3, hu => simp at hu
          | 15, ho =>
            simp only [List.getElem?_toArray, List.getElem?_cons_zero, List.getElem?_cons_succ, Option.some.injEq] at ho
            subst ho
            go_simp
            exact hK (.pointer (some ⟨bs, 0, none⟩)) _ (GrowS.none_ (grown_refl _)) (by simpa [getD_setT (show 15 < listed.size by omega)] using hG.quiet (grown_refl _)) rfl
          | 16, ho =>
            simp only [List.getElem?_toArray, List.getElem?_cons_zero, List.getElem?_cons_succ, Option.some.injEq] at ho
            subst ho
            have p15 := (hpre ⟨15, .data⟩ (by simp) rfl).2
            have e8 : f 15 = .pointer (some ⟨bs, 0, none⟩) := p15
            have f9 := (hpre ⟨9, .chain⟩ (by simp) rfl).1
            have f16 := getD_ff hun
            have f3 := hG.2.1 f9
            rw [f3, f9, f16] at hG
            rw [e8] at hK ⊢
            go_simp
            refine (next_any bs L (T + 1 + 1 + 1) 3 w2 hG.1.st (by omega) (by omega)).mono ?_
            rintro e w5 ⟨rfl, hs5, hg5⟩
            dsimp only
            exact hK (.int .i64 (nx L (T + 1 + 1 + 1) 3)) w5 (GrowS.some_ hg5 hbs4) (by rw [getD_setT (by omega), getD_setT (by omega), getD_setT (by omega), if_neg (by decide), if_neg (by decide), if_pos rfl, f3, f9]; exact ⟨hG.1.call hs5 hg5, by simp, by simp, Nat.le_trans hG.2.2.2 hg5.size⟩) rfl
          | 17, ho =>
            simp only [List.getElem?_toArray, List.getElem?_cons_zero, List.getElem?_cons_succ, Option.some.injEq] at ho
            subst ho
            have p14 := (hpre ⟨14, .data⟩ (by simp) rfl).2
            have p16 := (hpre ⟨16, .data⟩ (by simp) rfl).2
            obtain ⟨us, hul, ⟨N, e7, hrd, hN⟩, hus⟩ := p14
            have e9 : f 16 = .int .i64 (k2 : Int) := by rw [← hk2]; exact p16
            rw [hul] at e7 hrd
            obtain ⟨b0, o0, eN, hbN, hcN⟩ := hrd.2 (by omega)
            cases eN
            have hug : us[k2]? = some (us[k2]'(by omega)) := List.getElem?_eq_getElem _
            generalize us[k2]'(by omega) = u at hug
            have hcu := hcN _ u hug
            rw [Nat.zero_add] at hcu
            rw [e7, e9] at hK ⊢
            go_simp
            exact hK (.pointer (some ⟨N, k2, none⟩)) _ (GrowS.none_ (grown_refl _)) (by simpa [getD_setT (show 17 < listed.size by omega)] using hG.quiet (grown_refl _)) (by show ∃ N u, _; rw [hk2, Int.toNat_natCast]; exact ⟨N, u, rfl, hN, hbN, hcu, hus _ u hug⟩)
          | 18, ho =>
            simp only [List.getElem?_toArray, List.getElem?_cons_zero, List.getElem?_cons_succ, Option.some.injEq] at ho
            subst ho
            have p17 := (hpre ⟨17, .data⟩ (by simp) rfl).2
            obtain ⟨N, u, e10, hN, hNl, hcu, hu⟩ := p17
            rw [hk2, Int.toNat_natCast] at e10 hcu
            have hu' := hu
            obtain ⟨Au, nu, cu, eu, _, _⟩ := hu'
            rw [eu] at hcu hu
            rw [e10] at hK ⊢
            go_simp
            exact hK (.slice Au nu cu) _ (GrowS.none_ (grown_refl _)) (by simpa [getD_setT (show 18 < listed.size by omega)] using hG.quiet (grown_refl _)) hu
          | 19, ho =>
            simp only [List.getElem?_toArray, List.getElem?_cons_zero, List.getElem?_cons_succ, Option.some.injEq] at ho
            subst ho
            have p3 := (hpre ⟨3, .data⟩ (by simp) rfl).2
            have p11 := (hpre ⟨11, .data⟩ (by simp) rfl).2
            have p18 := (hpre ⟨18, .data⟩ (by simp) rfl).2
            have e3 : f 3 = .string (pkS L (T + 1) wKs) := p3
            have q1 := p11
            have q2 := p18
            obtain ⟨A4, n4, c4, e4, _, _⟩ := p11
            obtain ⟨A5, n5, c5, e5, _, _⟩ := p18
            rw [e4] at q1
            rw [e5] at q2
            rw [e3, e4, e5] at hK ⊢
            go_simp
            exact hK (.agg #[.string (pkS L (T + 1) wKs), .slice A4 n4 c4, .slice A5 n5 c5]) _ (GrowS.none_ (grown_refl _)) (by simpa [getD_setT (show 19 < listed.size by omega)] using hG.quiet (grown_refl _)) ⟨_, _, rfl, q1, q2⟩
          | 20, ho =>
            simp only [List.getElem?_toArray, List.getElem?_cons_zero, List.getElem?_cons_succ, Option.some.injEq] at ho
            subst ho
            have p19 := (hpre ⟨19, .data⟩ (by simp) rfl).2
            obtain ⟨u1, u2, e19, q1, q2⟩ := p19
            have r1 := q1
            have r2 := q2
            obtain ⟨A4, n4, c4, rfl, _, _⟩ := r1
            obtain ⟨A5, n5, c5, rfl, _, _⟩ := r2
            rw [e19] at hK ⊢
            go_simp
            exact hK (.slice (some ⟨w2.heap.size, 0, none⟩) 1 1) _ (GrowS.none_ (grown_alloc (grown_refl _) _)) (by simpa [getD_setT (show 20 < listed.size by omega)] using hG.quiet (grown_alloc (grown_refl _) _)) ⟨_, _, _, rfl, hG.2.2.2, Blk.new w2 _ _, Gd.stab q1 (GrowS.none_ (grown_alloc (grown_refl _) _)), Gd.stab q2 (GrowS.none_ (grown_alloc (grown_refl _) _))⟩
          | n + 21, ho => simp at ho
        case hdb =>
          intro listed f w2 hall hG hF
          have f16 := hall 16 (by simp)
          have f9 := hG.2.2.1 f16
          have f3 := hG.2.1 f9
          rw [f3, f9, f16] at hG
          have e0 : f 0 = u3 := hF 0 (by simp)
          obtain ⟨N, u1, u2, e20, hN, hblk, q1, q2⟩ := (hF 20 (by simp) : sF L (T + 1) bs w4.heap.size u3 20 w2 (f 20))
          obtain ⟨A1, n1, c1, rfl, hr1, hb1⟩ := q1
          obtain ⟨A2, n2, c2, rfl, hr2, hb2⟩ := q2
          have hO := hG.1
          have hsz := hG.2.2.2
          have hszw := hO.gro.size
          have hu3 : ∀ j, u3.ownBlock = some j → j < w4.heap.size := fun j hj => (hO4.own.lt j hj).2
          obtain ⟨r, hr⟩ : ∃ r : Sr, r = ⟨pkS L (T + 1) wKs, A1, n1, c1, A2, n2, c2, wHs.getD (nx L (T + 1 + 1) 4).toNat [], wRs.getD (nx L (T + 1 + 2) 3).toNat []⟩ := ⟨_, rfl⟩
          have hSr : SrOk w2 w1.heap.size r := by
            rw [hr]
            have := hO4.gro.size
            refine ⟨⟨?_, fun a ha => by have := (hb1 a ha).1; omega⟩, ?_, fun a ha => by have := (hb2 a ha).1; omega⟩
            · have h1 := hr1.1; exact hr1
            · exact hr2
          have hr2' : ∀ a, inSr r a → a.block < w2.heap.size ∧ u3.ownBlock ≠ some a.block := by
            rw [hr]
            rintro a (ha | ha)
            · have := hb1 a ha; exact ⟨this.2, fun e => by have := hu3 _ e; omega⟩
            · have := hb2 a ha; exact ⟨this.2, fun e => by have := hu3 _ e; omega⟩
          have hblk' : Blk w2 N 75 (srCells r).toArray := by rw [hr]; exact hblk
          have HR := Lib.hid hr
          clear hr hblk hr1 hr2 hb1 hb2 hu3 hF hall
          show wpList _ _ _ _ _ _
          refine ap_sit_lies rfl _ _ rfl w1.heap.size u3 l r N e0 hO.own e20 hblk' (by omega) hszw ?_
          intro g cap w7 hown7 hg7 hb7
          have hO7 := hO.app hSr hr2' hown7 hg7 hb7
          have HO7 := Lib.hid hO7
          clear hO7 hown7 hg7 hb7 hSr hr2' hblk' hO hG hO5
          show wpList _ _ _ _ _ _
          go_wp2_with fail
          show wpList _ _ _ _ _ _
          go_wp2_with fail
          go_ret
          have hO7 := HO7.out
          have hMM := HM.out.1
          rw [HL.out.2, if_pos HF.out] at hMM
          have hmap : (l ++ [r]).map sitK = M.2 := by rw [← hMM, List.map_append, HL.out.1, HR.out]; rfl
          obtain ⟨A9, c9, e9, hR9⟩ := hO7.done
          refine ⟨A9, c9, ?_, ?_, ?_, ?_⟩
          · rw [← hmap, List.length_map]
            exact congrArg Ending.returned (by simpa using e9)
          · rw [← hmap, ← hzK]; exact hR9
          · have := hO7.st; rw [← hMM]; exact this
          · exact (HM.out.2.2.but (some bs)).trans hO7.gro
      · have hf' : (nx L T 15 == 0) = false := by simpa using hf
        rw [hf']
        have HF := Lib.hid hf
        clear hf hf'
        obtain ⟨A9, c9, rfl, hR9⟩ := hO4.done
        go_wp2_with fail
        go_ret
        have hMM := HM.out.1
        rw [HL.out.2, if_neg HF.out] at hMM
        have hmap : l.map sitK = M.2 := by rw [← hMM]; exact HL.out.1
        refine ⟨A9, c9, ?_, ?_, ?_, ?_⟩
        · show Ending.returned (.slice A9 l.length c9) = _
          rw [← hmap, List.length_map]
        · rw [← hmap, ← hzK]; exact hR9
        · rw [← hMM]; exact hO4.st
        · exact (HM.out.2.2.but (some bs)).trans hO4.gro

end Go.Proofs.YtoneebofjbnjpaaDoor
