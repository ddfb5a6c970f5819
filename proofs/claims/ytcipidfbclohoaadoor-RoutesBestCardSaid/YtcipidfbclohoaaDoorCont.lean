/- The walks of slices.Index and slices.Contains over numbers. -/
import Derived.Test.YtcipidfbclohoaaDoorTerms
namespace Go.Proofs.YtcipidfbclohoaaDoor
open Go.RowKit

set_option maxHeartbeats 400000 in
theorem index_any (A : Option Addr) (n c : Nat) (l : List Int) (x : Int) (w : World) (hr : Rd w 1 A n (ints l)) (hn : n ≤ 1000000) :
    Calls Tryd.prog 65 #[.slice A n c, .int .i64 x] w fun e w' => ∃ k : Int, e = .returned (.int .i64 k) ∧ (decide (0 ≤ k) = decide (x ∈ l)) ∧ w.grownBy w' none := by
  have hl : l.length = n := by have := hr.1; simpa [ints] using this
  have HL := Lib.hid hl
  clear hl
  go_enter Tryd.func65, Tryd.ntmps65
  go_wp2_with fail
  go_loopg [8] n (fun k i wr => ∃ j : Nat, k + j = n ∧ i = .int .i64 j ∧ w.grownBy wr none ∧ Hid (∀ i y, i < j → l[i]? = some y → y ≠ x))
  case atStart => exact ⟨0, by omega, rfl, grown_refl w, Lib.hid fun i y h => absurd h (by omega)⟩
  case round =>
    obtain ⟨j, hj, rfl, hg, H⟩ := hrel
    by_cases hlt : j < n
    · obtain ⟨b, off, rfl, _, y, hy, c0⟩ := int_cells (hr.grown hg) hlt
      have hlt' : (j : Int) < (n : Int) := by omega
      have HJ := Lib.hid (And.intro hj hy)
      by_cases hxy : x = y
      · subst hxy
        clear hj hy
        have hxx : (x == x) = true := by simp
        go_wp2_with fail
        go_ret
        refine ⟨j, rfl, ?_, hg⟩
        rw [decide_eq_true (show (0 : Int) ≤ (j : Int) by omega), decide_eq_true (List.mem_of_getElem? HJ.out.2)]
      · have hxx : (x == y) = false := by rw [beq_eq_false_iff_ne]; exact hxy
        have hyx : y ≠ x := fun h => hxy h.symm
        have HX := Lib.hid hyx
        clear hj hy hxy hyx
        go_wp2_with fail
        obtain ⟨hj, hy⟩ := HJ.out
        go_roundg (gk - 1)
        case measure => omega
        case rel => exact ⟨j + 1, by omega, by go_num, hg, Lib.hid fun i z hi hz => by
          by_cases e : i = j
          · subst e; rw [hy] at hz; injection hz with hz; rw [← hz]; exact HX.out
          · exact H.out i z (by omega) hz⟩
    · obtain rfl : j = n := by omega
      go_wp2_with fail
      go_ret
      refine ⟨-1, rfl, ?_, hg⟩
      have hm : ¬ x ∈ l := by
        intro h
        obtain ⟨i, hi, e⟩ := List.getElem_of_mem h
        exact H.out i x (by have := HL.out; omega) (by rw [← e]; exact List.getElem?_eq_getElem hi) rfl
      rw [decide_eq_false hm]; rfl

theorem contains_any (A : Option Addr) (n c : Nat) (l : List Int) (x : Int) (w : World) (hr : Rd w 1 A n (ints l)) (hn : n ≤ 1000000) :
    Calls Tryd.prog 41 #[.slice A n c, .int .i64 x] w fun e w' => e = .returned (.bool (decide (x ∈ l))) ∧ w.grownBy w' none := by
  have h := index_any A n c l x w hr hn
  generalize decide (x ∈ l) = q at *
  have H := Lib.hid h
  clear h
  go_enter Tryd.func41, Tryd.ntmps41
  go_wp2_with fail
  refine H.out.mono ?_
  rintro e w1 ⟨k, rfl, hk, hg⟩
  have HK := Lib.hid hk
  clear hk
  go_wp2_with fail
  go_ret
  exact ⟨retB HK.out, hg⟩

end Go.Proofs.YtcipidfbclohoaaDoor
