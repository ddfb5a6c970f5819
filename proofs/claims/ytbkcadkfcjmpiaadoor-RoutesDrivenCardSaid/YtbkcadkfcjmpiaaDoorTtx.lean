/- The walk of the reference's TourText. -/
import Derived.Test.YtbkcadkfcjmpiaaDoorPrint
namespace Go.Proofs.YtbkcadkfcjmpiaaDoor
open Go.RowKit

/-- What the operations of a line yield. -/
def ttF (g gX : Nat) (A : Option Addr) (n d j : Nat) (p : Addr) (nb : Nat) (key : ByteArray) (i : Nat) (_ : World) (v : Value) : Prop :=
  match i with
  | 0 => v = .func (.func 62) #[] #[]
  | 1 => v = .pointer (some ⟨g, 0, none⟩)
  | 2 => v = .slice A n d
  | 3 => v = .int .i64 j
  | 4 => v = .pointer (some p)
  | 5 => v = .int .i64 nb
  | 6 => v = .int .i64 ((nb : Int) / 60)
  | 7 => v = .string (twoB (nb / 60))
  | 8 => v = .string (twoB (nb / 60) ++ ⟨#[58]⟩)
  | 9 => v = .func (.func 62) #[] #[]
  | 10 => v = .pointer (some ⟨g, 0, none⟩)
  | 11 => v = .slice A n d
  | 12 => v = .int .i64 j
  | 13 => v = .pointer (some p)
  | 14 => v = .int .i64 nb
  | 15 => v = .int .i64 ((nb : Int) % 60)
  | 16 => v = .string (twoB (nb % 60))
  | 17 => v = .string (clkB nb)
  | 18 => v = .string (clkB nb ++ ⟨#[32]⟩)
  | 19 => v = .pointer (some ⟨gX, 0, none⟩)
  | 20 => v = .string key
  | 21 => v = .string (clkB nb ++ ⟨#[32]⟩ ++ key)
  | 22 => v = .string (lineB nb key)
  | _ => True

set_option maxRecDepth 100000 in
set_option maxHeartbeats 8000000 in
theorem tourText_any (A : Option Addr) (cp : Nat) (V : List St) (B : Option Addr) (n d : Nat) (bg : List Int) (e y t : Int) (w : World) (hr : Rd w 6 A n (stFlat V)) (hb : Rd w 1 B n (ints bg)) (hn : n ≤ 1000) (hF : tourF V bg = 0) :
    Calls Tryd.prog 22 #[.slice A n cp, .agg #[.slice B n d, .int .i64 e, .int .i64 y, .int .i64 t]] w
      fun x w' => x = .returned (.string ⟨(textL V bg).toArray⟩) ∧ w.grownBy w' none := by
  have hlV : V.length = n := by have := hr.1; rw [stFlat_len] at this; omega
  have hlo : bg.length = n := by have := hb.1; simp [ints] at this; omega
  have hs0 : stopsF V = 0 := by
    unfold tourF at hF
    by_cases h : stopsF V = 0
    · exact h
    · rw [if_pos h] at hF; exact absurd hF h
  have hb0 : allB bg 0 14400 = true := by
    unfold tourF at hF
    rw [if_neg (by simp [hs0])] at hF
    by_cases h : bg.length ≠ V.length
    · rw [if_pos h] at hF; cases hF
    · rw [if_neg h] at hF
      by_cases h2 : allB bg 0 14400 = true
      · exact h2
      · rw [if_neg h2] at hF; cases hF
  have hkey := stopsF_key hs0
  have hin := allB_at hb0
  clear hF hs0 hb0
  have h1 := Blk.new w 38 #[.slice B n d, .int .i64 e, .int .i64 y, .int .i64 t]
  have hg1 := grown_alloc (grown_refl w) (.cells #[.slice B n d, .int .i64 e, .int .i64 y, .int .i64 t] 38)
  obtain ⟨g, hg⟩ : ∃ g, w.heap.size = g := ⟨_, rfl⟩
  obtain ⟨W, hW⟩ : ∃ W, w.alloc (.cells #[.slice B n d, .int .i64 e, .int .i64 y, .int .i64 t] 38) = W := ⟨_, rfl⟩
  have hzW : W.heap.size = g + 1 := by rw [← hW, ← hg]; simp
  rw [hW] at h1 hg1
  rw [hg] at h1
  have hbn := bldr_new W
  have hB3 := h1.alloc (.cells #[.pointer none, .slice none 0 0] 85)
  have hgw3 := grown_alloc hg1 (.cells #[.pointer none, .slice none 0 0] 85)
  have hlb : g + 1 < (W.alloc (.cells #[.pointer none, .slice none 0 0] 85)).heap.size := by simp; omega
  rw [hzW] at hbn
  obtain ⟨w3, hw3⟩ : ∃ w3, W.alloc (.cells #[.pointer none, .slice none 0 0] 85) = w3 := ⟨_, rfl⟩
  rw [hw3] at hbn hB3 hgw3 hlb
  have HN := Lib.hid (And.intro hW (And.intro hw3 (And.intro hg (And.intro hkey (And.intro hin (And.intro hlV (And.intro hlo hzW)))))))
  clear hW hw3 hkey hin hlV hlo h1 hg1
  have hwle : w.heap.size ≤ g + 1 := by omega
  obtain ⟨b, hbe⟩ : ∃ b, g + 1 = b := ⟨_, rfl⟩
  rw [hbe] at hbn hlb hwle
  have hgb : g < b := by omega
  clear hg hzW
  have HBE := Lib.hid hbe
  clear hbe
  go_enter Tryd.func22, Tryd.ntmps22
  go_wp2_with fail
  rw [HN.out.1]
  (try rw [HN.out.2.1])
  (try rw [HN.out.2.2.2.2.2.2.2])
  (try rw [HN.out.2.2.1])
  (try rw [HBE.out])
  go_loopg [11] n (fun k i wq => ∃ j : Nat, k + j = n ∧ i = .int .i64 j ∧ Bldr b (textTo V bg j) wq ∧ (textTo V bg j).length ≤ j * 60 ∧ Blk wq g 38 #[.slice B n d, .int .i64 e, .int .i64 y, .int .i64 t] ∧ w.grownBy wq none ∧ b < wq.heap.size)
  case atStart => exact ⟨0, by omega, rfl, hbn, by simp [textTo, textL], hB3, hgw3, hlb⟩
  case round =>
    clear hbn hB3 hgw3 hlb
    obtain ⟨j, hj, rfl, hbd, hlen, hBt, hgr, hlb⟩ := hrel
    by_cases hlt : j < n
    · obtain ⟨b1, off1, rfl, _, x, hx, x0⟩ := int_cells (hb.grown hgr) hlt
      obtain ⟨b2, off2, rfl, _, r, hr2, y0, y1, y2, y3, y4, y5⟩ := st_cells (hr.grown hgr) hlt
      have hxr := HN.out.2.2.2.2.1 j x hx
      obtain ⟨nb, rfl⟩ := Int.eq_ofNat_of_zero_le hxr.1
      have hnb : nb ≤ 14400 := by omega
      have hks := HN.out.2.2.2.1 r (List.mem_of_getElem? hr2)
      have hst := textTo_step hr2 hx
      rw [Int.toNat_natCast] at hst
      obtain ⟨key, rx, ry, rf, rt, rl⟩ := r
      simp only at y0 y1 y2 y3 y4 y5 hst hks
      obtain ⟨gX, hgX⟩ : ∃ gX, wr.heap.size = gX := ⟨_, rfl⟩
      have hX6 := Blk.new wr 65 #[.string key, .int .i64 rx, .int .i64 ry, .int .i64 rf, .int .i64 rt, .int .i64 rl]
      rw [hgX] at hX6
      have hgA := grown_alloc (grown_refl wr) (.cells #[.string key, .int .i64 rx, .int .i64 ry, .int .i64 rf, .int .i64 rt, .int .i64 rl] 65)
      obtain ⟨W6, hW6⟩ : ∃ W6, wr.alloc (.cells #[.string key, .int .i64 rx, .int .i64 ry, .int .i64 rf, .int .i64 rt, .int .i64 rl] 65) = W6 := ⟨_, rfl⟩
      have HA := Lib.hid (And.intro hW6 hgX)
      rw [hW6] at hX6 hgA
      have hBt6 := hBt.grown hgA (by simp)
      have HK := Lib.hid (And.intro (show W6.cell? ⟨g, 0, none⟩ = some (.slice (some ⟨b1, off1, none⟩) n d) from hBt6.cell 0) (And.intro (hgA.cell x0 (by simp)) (And.intro (show W6.cell? ⟨gX, 0, none⟩ = some (.string key) from hX6.cell 0) (And.intro hnb hks))))
      have HJ := Lib.hid (And.intro hj (And.intro (hbd.grown hgA) (And.intro hlen (And.intro hBt6 (And.intro (hgr.trans hgA) (And.intro (show b < W6.heap.size from Nat.lt_of_lt_of_le hlb hgA.size) hst))))))
      clear hW6 hgX hX6 hgA hBt6 hj hbd hlen hBt hgr hlb hst hks hnb hxr hx hr2
      go_wp2_with fail
      rw [HA.out.1, HA.out.2]
      refine region_split_at 23 _ _ rfl rfl (by kernel_rfl) (by kernel_rfl) (by kernel_rfl) (by kernel_rfl) (by kernel_rfl) ?_
      simp only [List.take_succ_cons, List.take_zero, List.size_toArray, List.length_cons, List.length_nil, Nat.reduceAdd]
      refine wpAny_facts (frame := ?fr) ?hfr (fun q => [u16, u17, u18, u19, u20, u21, u22, u23, u24, u25, u26, u27, u28, u29, u30, u31, u32, u33, u34, u35, u36, u37, u38].getD q undef) ?h0 (ttF g gX (some ⟨b1, off1, none⟩) n d j ⟨b1, off1 + j, none⟩ nb key)
        (fun _ _ w => W6.grownBy w none) (fun _ _ => True) (fun _ _ _ _ _ h => h) ?hG (by kernel_rfl) ?hput ?hs ?hd
      case hfr =>
        intro f
        simp only [putsF, List.zipIdx_cons, List.zipIdx_nil, List.foldl_cons, List.foldl_nil, Nat.reduceAdd, Act.put, List.setIfInBounds_toArray, List.set_cons_zero, List.set_cons_succ]
        rfl
      case h0 => rfl
      case hG => exact grown_drew (grown_refl W6)
      case hput =>
        intro i o ho f v
        match i, ho with
        | 0, ho => simp only [List.getElem?_toArray, List.getElem?_cons_zero, Option.some.injEq] at ho; subst ho; rfl
        | 1, ho => simp only [List.getElem?_toArray, List.getElem?_cons_zero, List.getElem?_cons_succ, Option.some.injEq] at ho; subst ho; rfl
        | 2, ho => simp only [List.getElem?_toArray, List.getElem?_cons_zero, List.getElem?_cons_succ, Option.some.injEq] at ho; subst ho; rfl
        | 3, ho => simp only [List.getElem?_toArray, List.getElem?_cons_zero, List.getElem?_cons_succ, Option.some.injEq] at ho; subst ho; rfl
        | 4, ho => simp only [List.getElem?_toArray, List.getElem?_cons_zero, List.getElem?_cons_succ, Option.some.injEq] at ho; subst ho; rfl
        | 5, ho => simp only [List.getElem?_toArray, List.getElem?_cons_zero, List.getElem?_cons_succ, Option.some.injEq] at ho; subst ho; rfl
        | 6, ho => simp only [List.getElem?_toArray, List.getElem?_cons_zero, List.getElem?_cons_succ, Option.some.injEq] at ho; subst ho; rfl
        | 7, ho => simp only [List.getElem?_toArray, List.getElem?_cons_zero, List.getElem?_cons_succ, Option.some.injEq] at ho; subst ho; rfl
        | 8, ho => simp only [List.getElem?_toArray, List.getElem?_cons_zero, List.getElem?_cons_succ, Option.some.injEq] at ho; subst ho; rfl
        | 9, ho => simp only [List.getElem?_toArray, List.getElem?_cons_zero, List.getElem?_cons_succ, Option.some.injEq] at ho; subst ho; rfl
        | 10, ho => simp only [List.getElem?_toArray, List.getElem?_cons_zero, List.getElem?_cons_succ, Option.some.injEq] at ho; subst ho; rfl
        | 11, ho => simp only [List.getElem?_toArray, List.getElem?_cons_zero, List.getElem?_cons_succ, Option.some.injEq] at ho; subst ho; rfl
        | 12, ho => simp only [List.getElem?_toArray, List.getElem?_cons_zero, List.getElem?_cons_succ, Option.some.injEq] at ho; subst ho; rfl
        | 13, ho => simp only [List.getElem?_toArray, List.getElem?_cons_zero, List.getElem?_cons_succ, Option.some.injEq] at ho; subst ho; rfl
        | 14, ho => simp only [List.getElem?_toArray, List.getElem?_cons_zero, List.getElem?_cons_succ, Option.some.injEq] at ho; subst ho; rfl
        | 15, ho => simp only [List.getElem?_toArray, List.getElem?_cons_zero, List.getElem?_cons_succ, Option.some.injEq] at ho; subst ho; rfl
        | 16, ho => simp only [List.getElem?_toArray, List.getElem?_cons_zero, List.getElem?_cons_succ, Option.some.injEq] at ho; subst ho; rfl
        | 17, ho => simp only [List.getElem?_toArray, List.getElem?_cons_zero, List.getElem?_cons_succ, Option.some.injEq] at ho; subst ho; rfl
        | 18, ho => simp only [List.getElem?_toArray, List.getElem?_cons_zero, List.getElem?_cons_succ, Option.some.injEq] at ho; subst ho; rfl
        | 19, ho => simp only [List.getElem?_toArray, List.getElem?_cons_zero, List.getElem?_cons_succ, Option.some.injEq] at ho; subst ho; rfl
        | 20, ho => simp only [List.getElem?_toArray, List.getElem?_cons_zero, List.getElem?_cons_succ, Option.some.injEq] at ho; subst ho; rfl
        | 21, ho => simp only [List.getElem?_toArray, List.getElem?_cons_zero, List.getElem?_cons_succ, Option.some.injEq] at ho; subst ho; rfl
        | 22, ho => simp only [List.getElem?_toArray, List.getElem?_cons_zero, List.getElem?_cons_succ, Option.some.injEq] at ho; subst ho; rfl
        | n + 23, ho => simp at ho
      case hs =>
        intro i o ho listed f w2 hsz hun hG hpre K hK
        have hsz' : listed.size = 23 := by simpa using hsz
        dsimp only at hK hG ⊢
        match i, ho with
        | 0, ho =>
          simp only [List.getElem?_toArray, List.getElem?_cons_zero, Option.some.injEq] at ho
          subst ho
          go_simp
          exact hK (.func (.func 62) #[] #[]) _ trivial hG rfl
        | 1, ho =>
          simp only [List.getElem?_toArray, List.getElem?_cons_zero, List.getElem?_cons_succ, Option.some.injEq] at ho
          subst ho
          go_simp
          exact hK (.pointer (some ⟨g, 0, none⟩)) _ trivial hG rfl
        | 2, ho =>
          simp only [List.getElem?_toArray, List.getElem?_cons_zero, List.getElem?_cons_succ, Option.some.injEq] at ho
          subst ho
          have e0 : f 1 = .pointer (some ⟨g, 0, none⟩) := (hpre ⟨1, .data⟩ (by simp) rfl).2
          have z0 : w2.cell? ⟨g, 0, none⟩ = some (.slice (some ⟨b1, off1, none⟩) n d) := hG.cell HK.out.1 (by simp)
          rw [e0] at hK ⊢
          go_simp
          exact hK (.slice (some ⟨b1, off1, none⟩) n d) _ trivial hG rfl
        | 3, ho =>
          simp only [List.getElem?_toArray, List.getElem?_cons_zero, List.getElem?_cons_succ, Option.some.injEq] at ho
          subst ho
          go_simp
          exact hK (.int .i64 j) _ trivial hG rfl
        | 4, ho =>
          simp only [List.getElem?_toArray, List.getElem?_cons_zero, List.getElem?_cons_succ, Option.some.injEq] at ho
          subst ho
          have e1 : f 2 = .slice (some ⟨b1, off1, none⟩) n d := (hpre ⟨2, .data⟩ (by simp) rfl).2
          have e2 : f 3 = .int .i64 j := (hpre ⟨3, .data⟩ (by simp) rfl).2
          rw [e1, e2] at hK ⊢
          go_simp
          exact hK (.pointer (some ⟨b1, off1 + j, none⟩)) _ trivial hG rfl
        | 5, ho =>
          simp only [List.getElem?_toArray, List.getElem?_cons_zero, List.getElem?_cons_succ, Option.some.injEq] at ho
          subst ho
          have e3 : f 4 = .pointer (some ⟨b1, off1 + j, none⟩) := (hpre ⟨4, .data⟩ (by simp) rfl).2
          have z0 : w2.cell? ⟨b1, off1 + j, none⟩ = some (.int .i64 nb) := hG.cell HK.out.2.1 (by simp)
          rw [e3] at hK ⊢
          go_simp
          exact hK (.int .i64 nb) _ trivial hG rfl
        | 6, ho =>
          simp only [List.getElem?_toArray, List.getElem?_cons_zero, List.getElem?_cons_succ, Option.some.injEq] at ho
          subst ho
          have e5 : f 5 = .int .i64 nb := (hpre ⟨5, .data⟩ (by simp) rfl).2
          rw [e5] at hK ⊢
          have h14 := HK.out.2.2.2.1
          have hw : IntKind.i64.wrap ((nb : Int) / 60) = (nb : Int) / 60 := IntWalk.i64_in _ (by omega)
          go_simp
          exact hK (.int .i64 ((nb : Int) / 60)) _ trivial hG rfl
        | 7, ho =>
          simp only [List.getElem?_toArray, List.getElem?_cons_zero, List.getElem?_cons_succ, Option.some.injEq] at ho
          subst ho
          have e0 : f 0 = .func (.func 62) #[] #[] := (hpre ⟨0, .data⟩ (by simp) rfl).2
          have e6 : f 6 = .int .i64 ((nb : Int) / 60) := (hpre ⟨6, .data⟩ (by simp) rfl).2
          have hcl := twoRef_any (nb / 60) (by have := HK.out.2.2.2.1; omega) w2
          rw [show ((nb / 60 : Nat) : Int) = (nb : Int) / 60 from by omega] at hcl
          rw [e0, e6] at hK ⊢
          go_simp
          refine hcl.mono ?_
          rintro e w5 ⟨rfl, hg5⟩
          dsimp only
          exact hK _ w5 trivial (hG.trans hg5) rfl
        | 8, ho =>
          simp only [List.getElem?_toArray, List.getElem?_cons_zero, List.getElem?_cons_succ, Option.some.injEq] at ho
          subst ho
          have h14 := HK.out.2.2.2.1
          have ht1 := twoB_size (show nb / 60 ≤ 240 by omega)
          have ht2 := twoB_size (show nb % 60 ≤ 240 by omega)
          have hks := HK.out.2.2.2.2
          have e7 : f 7 = .string (twoB (nb / 60)) := (hpre ⟨7, .data⟩ (by simp) rfl).2
          rw [e7] at hK ⊢
          go_simp
          split
          · exfalso
            omega
          · exact hK (.string (twoB (nb / 60) ++ (⟨#[58]⟩ : ByteArray))) _ trivial hG rfl
        | 9, ho =>
          simp only [List.getElem?_toArray, List.getElem?_cons_zero, List.getElem?_cons_succ, Option.some.injEq] at ho
          subst ho
          go_simp
          exact hK (.func (.func 62) #[] #[]) _ trivial hG rfl
        | 10, ho =>
          simp only [List.getElem?_toArray, List.getElem?_cons_zero, List.getElem?_cons_succ, Option.some.injEq] at ho
          subst ho
          go_simp
          exact hK (.pointer (some ⟨g, 0, none⟩)) _ trivial hG rfl
        | 11, ho =>
          simp only [List.getElem?_toArray, List.getElem?_cons_zero, List.getElem?_cons_succ, Option.some.injEq] at ho
          subst ho
          have e0 : f 10 = .pointer (some ⟨g, 0, none⟩) := (hpre ⟨10, .data⟩ (by simp) rfl).2
          have z0 : w2.cell? ⟨g, 0, none⟩ = some (.slice (some ⟨b1, off1, none⟩) n d) := hG.cell HK.out.1 (by simp)
          rw [e0] at hK ⊢
          go_simp
          exact hK (.slice (some ⟨b1, off1, none⟩) n d) _ trivial hG rfl
        | 12, ho =>
          simp only [List.getElem?_toArray, List.getElem?_cons_zero, List.getElem?_cons_succ, Option.some.injEq] at ho
          subst ho
          go_simp
          exact hK (.int .i64 j) _ trivial hG rfl
        | 13, ho =>
          simp only [List.getElem?_toArray, List.getElem?_cons_zero, List.getElem?_cons_succ, Option.some.injEq] at ho
          subst ho
          have e1 : f 11 = .slice (some ⟨b1, off1, none⟩) n d := (hpre ⟨11, .data⟩ (by simp) rfl).2
          have e2 : f 12 = .int .i64 j := (hpre ⟨12, .data⟩ (by simp) rfl).2
          rw [e1, e2] at hK ⊢
          go_simp
          exact hK (.pointer (some ⟨b1, off1 + j, none⟩)) _ trivial hG rfl
        | 14, ho =>
          simp only [List.getElem?_toArray, List.getElem?_cons_zero, List.getElem?_cons_succ, Option.some.injEq] at ho
          subst ho
          have e3 : f 13 = .pointer (some ⟨b1, off1 + j, none⟩) := (hpre ⟨13, .data⟩ (by simp) rfl).2
          have z0 : w2.cell? ⟨b1, off1 + j, none⟩ = some (.int .i64 nb) := hG.cell HK.out.2.1 (by simp)
          rw [e3] at hK ⊢
          go_simp
          exact hK (.int .i64 nb) _ trivial hG rfl
        | 15, ho =>
          simp only [List.getElem?_toArray, List.getElem?_cons_zero, List.getElem?_cons_succ, Option.some.injEq] at ho
          subst ho
          have e5 : f 14 = .int .i64 nb := (hpre ⟨14, .data⟩ (by simp) rfl).2
          rw [e5] at hK ⊢
          go_simp
          exact hK (.int .i64 ((nb : Int) % 60)) _ trivial hG rfl
        | 16, ho =>
          simp only [List.getElem?_toArray, List.getElem?_cons_zero, List.getElem?_cons_succ, Option.some.injEq] at ho
          subst ho
          have e0 : f 9 = .func (.func 62) #[] #[] := (hpre ⟨9, .data⟩ (by simp) rfl).2
          have e6 : f 15 = .int .i64 ((nb : Int) % 60) := (hpre ⟨15, .data⟩ (by simp) rfl).2
          have hcl := twoRef_any (nb % 60) (by have := HK.out.2.2.2.1; omega) w2
          rw [show ((nb % 60 : Nat) : Int) = (nb : Int) % 60 from by omega] at hcl
          rw [e0, e6] at hK ⊢
          go_simp
          refine hcl.mono ?_
          rintro e w5 ⟨rfl, hg5⟩
          dsimp only
          exact hK _ w5 trivial (hG.trans hg5) rfl
        | 17, ho =>
          simp only [List.getElem?_toArray, List.getElem?_cons_zero, List.getElem?_cons_succ, Option.some.injEq] at ho
          subst ho
          have h14 := HK.out.2.2.2.1
          have ht1 := twoB_size (show nb / 60 ≤ 240 by omega)
          have ht2 := twoB_size (show nb % 60 ≤ 240 by omega)
          have hks := HK.out.2.2.2.2
          have e8 : f 8 = .string (twoB (nb / 60) ++ (⟨#[58]⟩ : ByteArray)) := (hpre ⟨8, .data⟩ (by simp) rfl).2
          have e16 : f 16 = .string (twoB (nb % 60)) := (hpre ⟨16, .data⟩ (by simp) rfl).2
          rw [e8, e16] at hK ⊢
          go_simp
          split
          · exfalso
            omega
          · exact hK (.string (clkB nb)) _ trivial hG rfl
        | 18, ho =>
          simp only [List.getElem?_toArray, List.getElem?_cons_zero, List.getElem?_cons_succ, Option.some.injEq] at ho
          subst ho
          have h14 := HK.out.2.2.2.1
          have ht1 := twoB_size (show nb / 60 ≤ 240 by omega)
          have ht2 := twoB_size (show nb % 60 ≤ 240 by omega)
          have hks := HK.out.2.2.2.2
          have hc9 := clkB_size h14
          have e17 : f 17 = .string (clkB nb) := (hpre ⟨17, .data⟩ (by simp) rfl).2
          rw [e17] at hK ⊢
          go_simp
          split
          · exfalso
            omega
          · exact hK (.string (clkB nb ++ (⟨#[32]⟩ : ByteArray))) _ trivial hG rfl
        | 19, ho =>
          simp only [List.getElem?_toArray, List.getElem?_cons_zero, List.getElem?_cons_succ, Option.some.injEq] at ho
          subst ho
          go_simp
          exact hK (.pointer (some ⟨gX, 0, none⟩)) _ trivial hG rfl
        | 20, ho =>
          simp only [List.getElem?_toArray, List.getElem?_cons_zero, List.getElem?_cons_succ, Option.some.injEq] at ho
          subst ho
          have e7 : f 19 = .pointer (some ⟨gX, 0, none⟩) := (hpre ⟨19, .data⟩ (by simp) rfl).2
          have z0 : w2.cell? ⟨gX, 0, none⟩ = some (.string key) := hG.cell HK.out.2.2.1 (by simp)
          rw [e7] at hK ⊢
          go_simp
          exact hK (.string key) _ trivial hG rfl
        | 21, ho =>
          simp only [List.getElem?_toArray, List.getElem?_cons_zero, List.getElem?_cons_succ, Option.some.injEq] at ho
          subst ho
          have h14 := HK.out.2.2.2.1
          have ht1 := twoB_size (show nb / 60 ≤ 240 by omega)
          have ht2 := twoB_size (show nb % 60 ≤ 240 by omega)
          have hks := HK.out.2.2.2.2
          have hc9 := clkB_size h14
          have e6 : f 18 = .string (clkB nb ++ ⟨#[32]⟩) := (hpre ⟨18, .data⟩ (by simp) rfl).2
          have e8 : f 20 = .string key := (hpre ⟨20, .data⟩ (by simp) rfl).2
          rw [e6, e8] at hK ⊢
          go_simp
          split
          · exfalso
            omega
          · exact hK (.string (clkB nb ++ (⟨#[32]⟩ : ByteArray) ++ key)) _ trivial hG rfl
        | 22, ho =>
          simp only [List.getElem?_toArray, List.getElem?_cons_zero, List.getElem?_cons_succ, Option.some.injEq] at ho
          subst ho
          have h14 := HK.out.2.2.2.1
          have ht1 := twoB_size (show nb / 60 ≤ 240 by omega)
          have ht2 := twoB_size (show nb % 60 ≤ 240 by omega)
          have hks := HK.out.2.2.2.2
          have hc9 := clkB_size h14
          have e9 : f 21 = .string (clkB nb ++ ⟨#[32]⟩ ++ key) := (hpre ⟨21, .data⟩ (by simp) rfl).2
          rw [e9] at hK ⊢
          go_simp
          split
          · exfalso
            omega
          · exact hK (.string (lineB nb key)) _ trivial hG rfl
        | n + 23, ho => simp at ho
      case hd =>
        intro listed f w2 hall hG hF
        have e10 : f 22 = .string (lineB nb key) := hF 22 (by simp)
        rw [e10]
        obtain ⟨hj, hbd, hlen, hBt, hgr, hlb, hst⟩ := HJ.out
        have hls := lineB_size (k := key) HK.out.2.2.2.1
        have hks := HK.out.2.2.2.2
        have hsz2 := hG.size
        have hwr := writeString_any b b (Lib.byteCells (textTo V bg j)) (lineB nb key) w2 (hbd.grown hG) (by rw [Lib.byteCells_length]; omega) (by omega)
        have HWR := Lib.hid (And.intro hwr (And.intro (hBt.grown hG (by simp)) (And.intro (hgr.trans hG) hst)))
        have hlb2 : b < w2.heap.size := by omega
        clear hwr hBt hgr hbd hst hF hall e10 hG
        show wpList _ _ _ _ _ _
        go_wp2_with fail
        refine HWR.out.1.mono ?_
        rintro x w7 ⟨rfl, hat, hbl⟩
        go_wp2_with fail
        obtain ⟨_, hBt, hgr, hst⟩ := HWR.out
        have hsz7 := hbl.size
        go_roundg (gk - 1)
        case measure => omega
        case rel =>
          refine ⟨j + 1, by omega, by go_num, ?_, ?_, hBt.below hbl (by omega), below_from hgr hbl (by omega), by omega⟩
          · rw [hst]; exact bldr_write hat
          · rw [hst, List.length_append]
            show _ + (lineB nb key).size ≤ _
            omega
    · obtain rfl : j = n := by omega
      have htx : textTo V bg j = textL V bg := by
        unfold textTo
        rw [List.take_of_length_le (by rw [HN.out.2.2.2.2.2.1]; exact Nat.le_refl _), List.take_of_length_le (by rw [HN.out.2.2.2.2.2.2.1]; exact Nat.le_refl _)]
      rw [htx] at hbd
      have hstr := Tryd.Builder_String_any b b (textL V bg) wr hbd (by omega)
      have HS := Lib.hid (And.intro hstr hgr)
      clear hstr hgr hbd hBt htx hlen hj
      go_wp2_with fail
      refine HS.out.1.mono ?_
      rintro x w7 ⟨rfl, hbl⟩
      go_wp2_with fail
      go_ret
      exact ⟨rfl, below_from HS.out.2 hbl (by omega)⟩

end Go.Proofs.YtbkcadkfcjmpiaaDoor
