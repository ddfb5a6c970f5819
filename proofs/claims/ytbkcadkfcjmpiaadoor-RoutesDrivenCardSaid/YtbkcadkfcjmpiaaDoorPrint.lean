/- The walk of Print. -/
import Derived.Test.YtbkcadkfcjmpiaaDoorPrtP
import Derived.Test.YtbkcadkfcjmpiaaDoorInv
import Derived.Test.YtbkcadkfcjmpiaaDoorStpW
namespace Go.Proofs.YtbkcadkfcjmpiaaDoor
open Go.RowKit

/-- What the operations of a line yield. -/
def ptF (g gX : Nat) (A : Option Addr) (n d j : Nat) (p : Addr) (nb : Nat) (key : ByteArray) (i : Nat) (_ : World) (v : Value) : Prop :=
  match i with
  | 0 => v = .pointer (some ⟨g, 0, none⟩)
  | 1 => v = .slice A n d
  | 2 => v = .int .i64 j
  | 3 => v = .pointer (some p)
  | 4 => v = .int .i64 nb
  | 5 => v = .string (clkB nb)
  | 6 => v = .string (clkB nb ++ ⟨#[32]⟩)
  | 7 => v = .pointer (some ⟨gX, 0, none⟩)
  | 8 => v = .string key
  | 9 => v = .string (clkB nb ++ ⟨#[32]⟩ ++ key)
  | 10 => v = .string (lineB nb key)
  | _ => True

theorem stpFrom_key : ∀ (l : List St) (pv : List St), stpFrom pv l = 0 → ∀ t ∈ l, t.k.size ≤ 40
  | [], _, _, t, ht => by cases ht
  | x :: l, pv, h, t, ht => by
    unfold stpFrom at h
    by_cases h1 : stpC pv x = 0
    · rw [if_neg (by simp [h1])] at h
      rcases List.mem_cons.1 ht with rfl | ht
      · unfold stpC at h1
        by_cases a1 : keyB t.k = false
        · rw [if_pos a1] at h1; cases h1
        · have a2 : keyB t.k = true := by simpa using a1
          unfold keyB at a2
          simp only [Bool.and_eq_true, decide_eq_true_eq] at a2
          exact a2.1.1.2
      · exact stpFrom_key l _ h t ht
    · rw [if_pos h1] at h; exact absurd h h1
theorem stopsF_key {l : List St} (h : stopsF l = 0) : ∀ t ∈ l, t.k.size ≤ 40 := by
  unfold stopsF at h
  by_cases h1 : 60 < l.length
  · rw [if_pos h1] at h; cases h
  · rw [if_neg h1] at h; exact stpFrom_key l [] h
theorem allB_at {l : List Int} {a b : Int} (h : allB l a b = true) (j : Nat) (x : Int) (hx : l[j]? = some x) : a ≤ x ∧ x ≤ b :=
  btw_true.1 (List.all_eq_true.1 h x (List.mem_of_getElem? hx))

set_option maxRecDepth 100000 in
set_option maxHeartbeats 8000000 in
theorem print_any (A : Option Addr) (m cp : Nat) (V : List St) (B : Option Addr) (n d : Nat) (bg : List Int) (e y t : Int) (w : World) (hr : Rd w 6 A m (stFlat V)) (hmc : m ≤ cp) (hb : Rd w 1 B n (ints bg)) (hn : n ≤ 1000) (hT : TabP w) :
    Calls Tryd.prog 19 #[.slice A m cp, .agg #[.slice B n d, .int .i64 e, .int .i64 y, .int .i64 t]] w
      fun x w' => x = .returned (.tuple #[.string (if tourF V bg = 0 then ⟨(textL V bg).toArray⟩ else ByteArray.empty), .int .i64 (tourF V bg)]) ∧ w.grownBy w' none := by
  have hlV : V.length = m := by have := hr.1; rw [stFlat_len] at this; omega
  have hlo : bg.length = n := by have := hb.1; simp [ints] at this; omega
  obtain ⟨E, hE⟩ : ∃ E, tourF V bg = E := ⟨_, rfl⟩
  obtain ⟨X, hX⟩ : ∃ X, (if E = 0 then (⟨(textL V bg).toArray⟩ : ByteArray) else ByteArray.empty) = X := ⟨_, rfl⟩
  rw [hE, hX]
  unfold tourF at hE
  rw [hlV, hlo] at hE
  have h1 := Blk.new w 38 #[.slice B n d, .int .i64 e, .int .i64 y, .int .i64 t]
  have hg1 := grown_alloc (grown_refl w) (.cells #[.slice B n d, .int .i64 e, .int .i64 y, .int .i64 t] 38)
  obtain ⟨g, hg⟩ : ∃ g, w.heap.size = g := ⟨_, rfl⟩
  obtain ⟨W, hW⟩ : ∃ W, w.alloc (.cells #[.slice B n d, .int .i64 e, .int .i64 y, .int .i64 t] 38) = W := ⟨_, rfl⟩
  rw [hW] at h1 hg1
  rw [hg] at h1
  have hck := checkStops_any A m cp V W (hr.grown hg1) hmc
  have hal := fun wx (h : w.grownBy wx none) => allBetween_any B n d bg 0 14400 wx (hb.grown h) (by omega)
  have hkey := fun (h : stopsF V = 0) => stopsF_key h
  have hin := fun (h : allB bg 0 14400 = true) => allB_at h
  obtain ⟨F, hF⟩ : ∃ F, stopsF V = F := ⟨_, rfl⟩
  obtain ⟨G, hGq⟩ : ∃ G, allB bg 0 14400 = G := ⟨_, rfl⟩
  rw [hF] at hck hE hkey
  rw [hGq] at hal hE hin
  have HW := Lib.hid (And.intro hW (And.intro hg (And.intro h1 (And.intro hg1 (And.intro hck (And.intro hal (And.intro hE (And.intro hX (And.intro hkey (And.intro hin (And.intro hlV hlo)))))))))))
  clear hW h1 hg1 hck hal hE hX hkey hin hF hGq hg hlV hlo
  go_enter Tryd.func19, Tryd.ntmps19
  go_wp2_with fail
  rw [HW.out.1]
  (try rw [HW.out.2.1])
  refine HW.out.2.2.2.2.1.mono ?_
  rintro x w1 ⟨rfl, hg1⟩
  have hgw1 := HW.out.2.2.2.1.trans hg1
  have hB1 := HW.out.2.2.1.grown hg1 (by simp)
  clear hg1
  by_cases hF : F = 0
  · subst hF
    have p0 : w1.cell? ⟨g, 0, none⟩ = some (.slice B n d) := hB1.cell 0
    by_cases hm : n = m
    · subst hm
      go_wp2_with fail
      refine (HW.out.2.2.2.2.2.1 w1 hgw1).mono ?_
      rintro x w2 ⟨rfl, hg2⟩
      have hgw2 := hgw1.trans hg2
      have hB2 := hB1.grown hg2 (by simp)
      clear hg2 hgw1 hB1 p0
      cases G with
      | false =>
        have hE1 : E = 1 := by rw [← HW.out.2.2.2.2.2.2.1]; simp
        have hX1 : X = ByteArray.empty := by rw [← HW.out.2.2.2.2.2.2.2.1, hE1]; rfl
        subst hE1 hX1
        go_wp2_with fail
        go_ret2
        exact ⟨rfl, hgw2⟩
      | true =>
        have hE1 : E = 0 := by rw [← HW.out.2.2.2.2.2.2.1]; simp
        have hX1 : X = ⟨(textL V bg).toArray⟩ := by rw [← HW.out.2.2.2.2.2.2.2.1, hE1]; rfl
        subst hE1
        have hkey := HW.out.2.2.2.2.2.2.2.2.1 (by trivial)
        have hin := HW.out.2.2.2.2.2.2.2.2.2.1 (by trivial)
        obtain ⟨b, hbe⟩ : ∃ b, w2.heap.size = b := ⟨_, rfl⟩
        have hbn := bldr_new w2
        have hgb := hB2.lt
        have hB3 := hB2.alloc (.cells #[.pointer none, .slice none 0 0] 85)
        have hgw3 := grown_alloc hgw2 (.cells #[.pointer none, .slice none 0 0] 85)
        have hwb := hgw2.size
        have hlb : b < (w2.alloc (.cells #[.pointer none, .slice none 0 0] 85)).heap.size := by simp; omega
        rw [hbe] at hbn hgb hwb
        have HN := Lib.hid (And.intro hbe (And.intro hkey (And.intro hin hX1)))
        clear hbe hkey hin hX1 hB2 hgw2
        go_wp2_with fail
        (try rw [HN.out.1])
        generalize w2.alloc (.cells #[.pointer none, .slice none 0 0] 85) = w3 at *
        go_loopg [27] n (fun k i wq => ∃ j : Nat, k + j = n ∧ i = .int .i64 j ∧ Bldr b (textTo V bg j) wq ∧ (textTo V bg j).length ≤ j * 60 ∧ Blk wq g 38 #[.slice B n d, .int .i64 e, .int .i64 y, .int .i64 t] ∧ w.grownBy wq none ∧ b < wq.heap.size)
        case atStart => exact ⟨0, by omega, rfl, hbn, by simp [textTo, textL], hB3, hgw3, hlb⟩
        case round =>
          clear hbn hB3 hgw3 hlb
          obtain ⟨j, hj, rfl, hbd, hlen, hBt, hgr, hlb⟩ := hrel
          by_cases hlt : j < n
          · obtain ⟨b1, off1, rfl, _, x, hx, x0⟩ := int_cells (hb.grown hgr) hlt
            obtain ⟨b2, off2, rfl, _, r, hr2, y0, y1, y2, y3, y4, y5⟩ := st_cells (hr.grown hgr) hlt
            have hxr := HN.out.2.2.1 j x hx
            obtain ⟨nb, rfl⟩ := Int.eq_ofNat_of_zero_le hxr.1
            have hnb : nb ≤ 14400 := by omega
            have hks := HN.out.2.1 r (List.mem_of_getElem? hr2)
            have hst := textTo_step hr2 hx
            rw [Int.toNat_natCast] at hst
            obtain ⟨key, rx, ry, rf, rt, rl⟩ := r
            simp only at y0 y1 y2 y3 y4 y5 hst hks
            obtain ⟨gX, hgX⟩ : ∃ gX, wr.heap.size = gX := ⟨_, rfl⟩
            have hX6 := Blk.new wr 65 #[.string key, .int .i64 rx, .int .i64 ry, .int .i64 rf, .int .i64 rt, .int .i64 rl]
            rw [hgX] at hX6
            have hgA := grown_alloc (grown_refl wr) (.cells #[.string key, .int .i64 rx, .int .i64 ry, .int .i64 rf, .int .i64 rt, .int .i64 rl] 65)
            obtain ⟨W6, hW6⟩ : ∃ W6, wr.alloc (.cells #[.string key, .int .i64 rx, .int .i64 ry, .int .i64 rf, .int .i64 rt, .int .i64 rl] 65) = W6 := ⟨_, rfl⟩
            have HA := Lib.hid (And.intro hW6 hgX)
            rw [hW6] at hX6 hgA
            have hBt6 := hBt.grown hgA (by simp)
            have HK := Lib.hid (And.intro (show W6.cell? ⟨g, 0, none⟩ = some (.slice (some ⟨b1, off1, none⟩) n d) from hBt6.cell 0) (And.intro (hgA.cell x0 (by simp)) (And.intro (show W6.cell? ⟨gX, 0, none⟩ = some (.string key) from hX6.cell 0) (And.intro hnb (And.intro (tabP_grown hT (hgr.trans hgA)) hks)))))
            have HJ := Lib.hid (And.intro hj (And.intro (hbd.grown hgA) (And.intro hlen (And.intro hBt6 (And.intro (hgr.trans hgA) (And.intro (show b < W6.heap.size from Nat.lt_of_lt_of_le hlb hgA.size) hst))))))
            clear hW6 hgX hX6 hgA hBt6 hj hbd hlen hBt hgr hlb hst hks hnb hxr hx hr2
            go_wp2_with fail
            rw [HA.out.1, HA.out.2]
            refine region_split_at 11 _ _ rfl rfl (by kernel_rfl) (by kernel_rfl) (by kernel_rfl) (by kernel_rfl) (by kernel_rfl) ?_
            simp only [List.take_succ_cons, List.take_zero, List.size_toArray, List.length_cons, List.length_nil, Nat.reduceAdd]
            refine wpAny_facts (frame := ?fr) ?hfr (fun q => [u32, u33, u34, u35, u36, u37, u38, u39, u40, u41, u42].getD q undef) ?h0 (ptF g gX (some ⟨b1, off1, none⟩) n d j ⟨b1, off1 + j, none⟩ nb key)
              (fun _ _ w => W6.grownBy w none) (fun _ _ => True) (fun _ _ _ _ _ h => h) ?hG (by kernel_rfl) ?hput ?hs ?hd
            case hfr =>
              intro f
              simp only [putsF, List.zipIdx_cons, List.zipIdx_nil, List.foldl_cons, List.foldl_nil, Nat.reduceAdd, Act.put, List.setIfInBounds_toArray, List.set_cons_zero, List.set_cons_succ]
              rfl
            case h0 => rfl
            case hG => exact grown_drew (grown_refl W6)
            case hput =>
              intro i o ho f v
              match i, ho with
              | 0, ho => simp only [List.getElem?_toArray, List.getElem?_cons_zero, Option.some.injEq] at ho; subst ho; rfl
              | 1, ho => simp only [List.getElem?_toArray, List.getElem?_cons_zero, List.getElem?_cons_succ, Option.some.injEq] at ho; subst ho; rfl
              | 2, ho => simp only [List.getElem?_toArray, List.getElem?_cons_zero, List.getElem?_cons_succ, Option.some.injEq] at ho; subst ho; rfl
              | 3, ho => simp only [List.getElem?_toArray, List.getElem?_cons_zero, List.getElem?_cons_succ, Option.some.injEq] at ho; subst ho; rfl
              | 4, ho => simp only [List.getElem?_toArray, List.getElem?_cons_zero, List.getElem?_cons_succ, Option.some.injEq] at ho; subst ho; rfl
              | 5, ho => simp only [List.getElem?_toArray, List.getElem?_cons_zero, List.getElem?_cons_succ, Option.some.injEq] at ho; subst ho; rfl
              | 6, ho => simp only [List.getElem?_toArray, List.getElem?_cons_zero, List.getElem?_cons_succ, Option.some.injEq] at ho; subst ho; rfl
              | 7, ho => simp only [List.getElem?_toArray, List.getElem?_cons_zero, List.getElem?_cons_succ, Option.some.injEq] at ho; subst ho; rfl
              | 8, ho => simp only [List.getElem?_toArray, List.getElem?_cons_zero, List.getElem?_cons_succ, Option.some.injEq] at ho; subst ho; rfl
              | 9, ho => simp only [List.getElem?_toArray, List.getElem?_cons_zero, List.getElem?_cons_succ, Option.some.injEq] at ho; subst ho; rfl
              | 10, ho => simp only [List.getElem?_toArray, List.getElem?_cons_zero, List.getElem?_cons_succ, Option.some.injEq] at ho; subst ho; rfl
              | n + 11, ho => simp at ho
            case hs =>
              intro i o ho listed f w2 hsz hun hG hpre K hK
              have hsz' : listed.size = 11 := by simpa using hsz
              dsimp only at hK hG ⊢
              match i, ho with
              | 0, ho =>
                simp only [List.getElem?_toArray, List.getElem?_cons_zero, Option.some.injEq] at ho
                subst ho
                go_simp
                exact hK (.pointer (some ⟨g, 0, none⟩)) _ trivial hG rfl
              | 1, ho =>
                simp only [List.getElem?_toArray, List.getElem?_cons_zero, List.getElem?_cons_succ, Option.some.injEq] at ho
                subst ho
                have e0 : f 0 = .pointer (some ⟨g, 0, none⟩) := (hpre ⟨0, .data⟩ (by simp) rfl).2
                have z0 : w2.cell? ⟨g, 0, none⟩ = some (.slice (some ⟨b1, off1, none⟩) n d) := hG.cell HK.out.1 (by simp)
                rw [e0] at hK ⊢
                go_simp
                exact hK (.slice (some ⟨b1, off1, none⟩) n d) _ trivial hG rfl
              | 2, ho =>
                simp only [List.getElem?_toArray, List.getElem?_cons_zero, List.getElem?_cons_succ, Option.some.injEq] at ho
                subst ho
                go_simp
                exact hK (.int .i64 j) _ trivial hG rfl
              | 3, ho =>
                simp only [List.getElem?_toArray, List.getElem?_cons_zero, List.getElem?_cons_succ, Option.some.injEq] at ho
                subst ho
                have e1 : f 1 = .slice (some ⟨b1, off1, none⟩) n d := (hpre ⟨1, .data⟩ (by simp) rfl).2
                have e2 : f 2 = .int .i64 j := (hpre ⟨2, .data⟩ (by simp) rfl).2
                rw [e1, e2] at hK ⊢
                go_simp
                exact hK (.pointer (some ⟨b1, off1 + j, none⟩)) _ trivial hG rfl
              | 4, ho =>
                simp only [List.getElem?_toArray, List.getElem?_cons_zero, List.getElem?_cons_succ, Option.some.injEq] at ho
                subst ho
                have e3 : f 3 = .pointer (some ⟨b1, off1 + j, none⟩) := (hpre ⟨3, .data⟩ (by simp) rfl).2
                have z0 : w2.cell? ⟨b1, off1 + j, none⟩ = some (.int .i64 nb) := hG.cell HK.out.2.1 (by simp)
                rw [e3] at hK ⊢
                go_simp
                exact hK (.int .i64 nb) _ trivial hG rfl
              | 5, ho =>
                simp only [List.getElem?_toArray, List.getElem?_cons_zero, List.getElem?_cons_succ, Option.some.injEq] at ho
                subst ho
                have e4 : f 4 = .int .i64 nb := (hpre ⟨4, .data⟩ (by simp) rfl).2
                rw [e4] at hK ⊢
                go_simp
                refine (clock_any nb HK.out.2.2.2.1 w2 (tabP_grown HK.out.2.2.2.2.1 hG)).mono ?_
                rintro e w5 ⟨rfl, hg5⟩
                dsimp only
                exact hK _ w5 trivial (hG.trans hg5) rfl
              | 6, ho =>
                simp only [List.getElem?_toArray, List.getElem?_cons_zero, List.getElem?_cons_succ, Option.some.injEq] at ho
                subst ho
                have e5 : f 5 = .string (clkB nb) := (hpre ⟨5, .data⟩ (by simp) rfl).2
                have hsz := clkB_size HK.out.2.2.2.1
                rw [e5] at hK ⊢
                go_simp
                split
                · exfalso
                  omega
                · exact hK (.string (clkB nb ++ (⟨#[32]⟩ : ByteArray))) _ trivial hG rfl
              | 7, ho =>
                simp only [List.getElem?_toArray, List.getElem?_cons_zero, List.getElem?_cons_succ, Option.some.injEq] at ho
                subst ho
                go_simp
                exact hK (.pointer (some ⟨gX, 0, none⟩)) _ trivial hG rfl
              | 8, ho =>
                simp only [List.getElem?_toArray, List.getElem?_cons_zero, List.getElem?_cons_succ, Option.some.injEq] at ho
                subst ho
                have e7 : f 7 = .pointer (some ⟨gX, 0, none⟩) := (hpre ⟨7, .data⟩ (by simp) rfl).2
                have z0 : w2.cell? ⟨gX, 0, none⟩ = some (.string key) := hG.cell HK.out.2.2.1 (by simp)
                rw [e7] at hK ⊢
                go_simp
                exact hK (.string key) _ trivial hG rfl
              | 9, ho =>
                simp only [List.getElem?_toArray, List.getElem?_cons_zero, List.getElem?_cons_succ, Option.some.injEq] at ho
                subst ho
                have e6 : f 6 = .string (clkB nb ++ ⟨#[32]⟩) := (hpre ⟨6, .data⟩ (by simp) rfl).2
                have e8 : f 8 = .string key := (hpre ⟨8, .data⟩ (by simp) rfl).2
                have hsz : (clkB nb ++ (⟨#[32]⟩ : ByteArray)).size ≤ 10 := by have := clkB_size HK.out.2.2.2.1; rw [ByteArray.size_append]; show (clkB nb).size + 1 ≤ 10; omega
                have hks := HK.out.2.2.2.2.2
                have hc9 := clkB_size HK.out.2.2.2.1
                rw [e6, e8] at hK ⊢
                go_simp
                split
                · exfalso
                  omega
                · exact hK (.string (clkB nb ++ (⟨#[32]⟩ : ByteArray) ++ key)) _ trivial hG rfl
              | 10, ho =>
                simp only [List.getElem?_toArray, List.getElem?_cons_zero, List.getElem?_cons_succ, Option.some.injEq] at ho
                subst ho
                have e9 : f 9 = .string (clkB nb ++ ⟨#[32]⟩ ++ key) := (hpre ⟨9, .data⟩ (by simp) rfl).2
                have hsz : (clkB nb ++ (⟨#[32]⟩ : ByteArray) ++ key).size ≤ 50 := by have := clkB_size HK.out.2.2.2.1; have hks := HK.out.2.2.2.2.2; rw [ByteArray.size_append, ByteArray.size_append]; show (clkB nb).size + 1 + key.size ≤ 50; omega
                have hc9 := clkB_size HK.out.2.2.2.1
                have hks := HK.out.2.2.2.2.2
                rw [e9] at hK ⊢
                go_simp
                split
                · exfalso
                  omega
                · exact hK (.string (lineB nb key)) _ trivial hG rfl
              | n + 11, ho => simp at ho
            case hd =>
              intro listed f w2 hall hG hF
              have e10 : f 10 = .string (lineB nb key) := hF 10 (by simp)
              rw [e10]
              obtain ⟨hj, hbd, hlen, hBt, hgr, hlb, hst⟩ := HJ.out
              have hls := lineB_size (k := key) HK.out.2.2.2.1
              have hks := HK.out.2.2.2.2.2
              have hsz2 := hG.size
              have hwr := writeString_any b b (Lib.byteCells (textTo V bg j)) (lineB nb key) w2 (hbd.grown hG) (by rw [Lib.byteCells_length]; omega) (by omega)
              have HWR := Lib.hid (And.intro hwr (And.intro (hBt.grown hG (by simp)) (And.intro (hgr.trans hG) hst)))
              have hlb2 : b < w2.heap.size := by omega
              clear hwr hBt hgr hbd hst hF hall e10 hG
              show wpList _ _ _ _ _ _
              go_wp2_with fail
              refine HWR.out.1.mono ?_
              rintro x w7 ⟨rfl, hat, hbl⟩
              go_wp2_with fail
              obtain ⟨_, hBt, hgr, hst⟩ := HWR.out
              have hsz7 := hbl.size
              go_roundg (gk - 1)
              case measure => omega
              case rel =>
                refine ⟨j + 1, by omega, by go_num, ?_, ?_, hBt.below hbl (by omega), below_from hgr hbl (by omega), by omega⟩
                · rw [hst]; exact bldr_write hat
                · rw [hst, List.length_append]
                  show _ + (lineB nb key).size ≤ _
                  omega
          · obtain rfl : j = n := by omega
            have htx : textTo V bg j = textL V bg := by
              unfold textTo
              rw [List.take_of_length_le (by rw [HW.out.2.2.2.2.2.2.2.2.2.2.1]; exact Nat.le_refl _), List.take_of_length_le (by rw [HW.out.2.2.2.2.2.2.2.2.2.2.2]; exact Nat.le_refl _)]
            rw [htx] at hbd
            have hstr := Tryd.Builder_String_any b b (textL V bg) wr hbd (by omega)
            have HS := Lib.hid (And.intro hstr hgr)
            have hwle := HW.out.2.1
            clear hstr hgr hbd hBt htx hlen hj
            go_wp2_with fail
            refine HS.out.1.mono ?_
            rintro x w7 ⟨rfl, hbl⟩
            go_wp2_with fail
            go_ret2
            refine ⟨?_, below_from HS.out.2 hbl (by omega)⟩
            rw [HN.out.2.2.2]
            rfl
    · have hmI : ((n : Int) != (m : Int)) = true := by rw [bne_iff_ne]; omega
      have hE1 : E = 3 := by rw [← HW.out.2.2.2.2.2.2.1]; simp [hm]
      have hX1 : X = ByteArray.empty := by rw [← HW.out.2.2.2.2.2.2.2.1, hE1]; rfl
      subst hE1 hX1
      go_wp2_with fail
      go_ret2
      exact ⟨rfl, hgw1⟩
  · have hE1 : E = F := by rw [← HW.out.2.2.2.2.2.2.1, if_pos hF]
    have hX1 : X = ByteArray.empty := by rw [← HW.out.2.2.2.2.2.2.2.1, hE1, if_neg hF]
    subst hE1 hX1
    have hb : (E != 0) = true := by rw [bne_iff_ne]; exact hF
    clear hF
    go_wp2_with fail
    go_ret2
    exact ⟨rfl, hgw1⟩

end Go.Proofs.YtbkcadkfcjmpiaaDoor
