/- The walk of slices.Equal over numbers. -/
import Derived.Test.YtcipidfbclohoaaDoorTerms
namespace Go.Proofs.YtcipidfbclohoaaDoor
open Go.RowKit

/-- Only draws between two worlds. -/
def Dr (w w' : World) : Prop := ∃ q, w' = w.drewN q
theorem Dr.refl (w : World) : Dr w w := ⟨0, rfl⟩
theorem Dr.more {w w' : World} (h : Dr w w') (n : Nat) : Dr w (w'.drewN n) := by obtain ⟨q, rfl⟩ := h; exact ⟨_, World.drewN_drewN _ _ _⟩
theorem Dr.grown {w w' : World} (h : Dr w w') : w.grownBy w' none := by obtain ⟨q, rfl⟩ := h; exact grown_drewN (grown_refl w) q

/-- slices.Equal of numbers. -/
theorem equalInts_q (A B : Option Addr) (n c m d : Nat) (l k : List Int) (w : World) (hr : Rd w 1 A n (ints l)) (hr2 : Rd w 1 B m (ints k)) (hn : n ≤ 1000000) (hm : m ≤ 1000000) :
    Calls Tryd.prog 14 #[.slice A n c, .slice B m d] w fun e w' => e = .returned (.bool (decide (l = k))) ∧ ∃ q, w' = w.drewN q := by
  have hl : l.length = n := by have := hr.1; simp [ints] at this; omega
  have hk : k.length = m := by have := hr2.1; simp [ints] at this; omega
  by_cases hnm : n = m
  · subst hnm
    have HL := Lib.hid (And.intro hl hk)
    clear hl hk
    go_enter Tryd.func14, Tryd.ntmps14
    go_wp2_with fail
    go_loopg [13] n (fun g i wr => ∃ j : Nat, g + j = n ∧ i = .int .i64 j ∧ Dr w wr ∧ l.take j = k.take j)
    case atStart => exact ⟨0, by omega, rfl, Dr.refl w, rfl⟩
    case round =>
      obtain ⟨j, hj, rfl, hg, H⟩ := hrel
      by_cases hlt : j < n
      · obtain ⟨b, off, rfl, hb, x, hx, c0⟩ := int_cells (hr.grown hg.grown) hlt
        obtain ⟨b', off', rfl, hb', y, hy, d0⟩ := int_cells (hr2.grown hg.grown) hlt
        have hlt' : (j : Int) < (n : Int) := by omega
        have HX := Lib.hid (And.intro hx (And.intro hy (And.intro H hj)))
        clear hx hy hj H
        by_cases hxy : x = y
        · subst hxy
          go_wp2_with fail
          go_quiet (fail)
          go_wp2_with fail
          obtain ⟨hx, hy, H, hj⟩ := HX.out
          go_roundg (gk - 1)
          case measure => omega
          case rel => exact ⟨j + 1, by omega, by go_num, hg.more _, by rw [take_at hx, take_at hy, H]⟩
        · have hb : (x != y) = true := by simpa using hxy
          have HN := Lib.hid hxy
          clear hxy
          go_wp2_with fail
          go_quiet (fail)
          go_wp2_with fail
          go_ret
          obtain ⟨hx, hy, H, hj⟩ := HX.out
          exact ⟨retB (by
            symm
            refine decide_eq_false fun e => HN.out ?_
            subst e
            rw [hx] at hy; injection hy), hg.more _⟩
      · obtain rfl : j = n := by omega
        go_wp2_with fail
        go_ret
        rw [List.take_of_length_le (by have := HL.out.1; omega), List.take_of_length_le (by have := HL.out.2; omega)] at H
        exact ⟨retB (by simp [H]), hg⟩
  · have hb : ((n : Int) != (m : Int)) = true := by rw [bne_iff_ne]; omega
    have hd : decide (l = k) = false := decide_eq_false fun e => hnm (by rw [← hl, ← hk, e])
    rw [hd]
    clear hd hl hk hnm
    go_enter Tryd.func14, Tryd.ntmps14
    go_wp2_with fail
    go_ret
    exact ⟨rfl, 0, rfl⟩

theorem equalInts_any (A B : Option Addr) (n c m d : Nat) (l k : List Int) (w : World) (hr : Rd w 1 A n (ints l)) (hr2 : Rd w 1 B m (ints k)) (hn : n ≤ 1000000) (hm : m ≤ 1000000) :
    Calls Tryd.prog 14 #[.slice A n c, .slice B m d] w fun e w' => e = .returned (.bool (decide (l = k))) ∧ w.grownBy w' none :=
  (equalInts_q A B n c m d l k w hr hr2 hn hm).mono fun _ _ h => ⟨h.1, Dr.grown h.2⟩

end Go.Proofs.YtcipidfbclohoaaDoor
