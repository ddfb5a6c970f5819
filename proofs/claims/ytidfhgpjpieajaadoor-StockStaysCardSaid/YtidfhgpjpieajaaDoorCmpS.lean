/- The walk of cmp.Compare over strings. -/
import Derived.Test.YtidfhgpjpieajaaDoorStkP
namespace Go.Proofs.YtidfhgpjpieajaaDoor
open Go.RowKit

theorem isNaNS_any (x : ByteArray) (w : World) : Calls Tryd.prog 125 #[.string x] w fun e w' => e = .returned (.bool false) ∧ w' = w := by
  have h : (x.toList != x.toList) = false := by simp
  have h2 : (x.toList == x.toList) = true := by simp
  go_enter Tryd.func125, Tryd.ntmps125
  go_wp2_with fail
  go_ret
  exact ⟨rfl, rfl⟩

def cpS (x y : ByteArray) : Int := if Op.bytesLess x.toList y.toList = true then -1 else if (x.toList == y.toList) = true then 0 else 1
theorem compareS_any (x y : ByteArray) (w : World) : Calls Tryd.prog 105 #[.string x, .string y] w fun e w' => e = .returned (.int .i64 (cpS x y)) ∧ w' = w := by
  by_cases h : Op.bytesLess x.toList y.toList = true
  · have HE := Lib.hid (show cpS x y = -1 by unfold cpS; rw [if_pos h])
    go_enter Tryd.func105, Tryd.ntmps105
    go_wp2_with (go_at_call 125; refine (isNaNS_any _ _).mono ?_; rintro e w' ⟨rfl, rfl⟩)
    go_ret
    exact ⟨by rw [HE.out]; rfl, rfl⟩
  · have h' : Op.bytesLess x.toList y.toList = false := by simpa using h
    by_cases h2 : (x.toList == y.toList) = true
    · have HE := Lib.hid (show cpS x y = 0 by unfold cpS; rw [if_neg h, if_pos h2])
      clear h
      go_enter Tryd.func105, Tryd.ntmps105
      go_wp2_with (go_at_call 125; refine (isNaNS_any _ _).mono ?_; rintro e w' ⟨rfl, rfl⟩)
      go_ret
      exact ⟨by rw [HE.out]; rfl, rfl⟩
    · have HE := Lib.hid (show cpS x y = 1 by unfold cpS; rw [if_neg h, if_neg h2])
      have h2' : (x.toList == y.toList) = false := by simpa using h2
      clear h h2
      go_enter Tryd.func105, Tryd.ntmps105
      go_wp2_with (go_at_call 125; refine (isNaNS_any _ _).mono ?_; rintro e w' ⟨rfl, rfl⟩)
      go_ret
      exact ⟨by rw [HE.out]; rfl, rfl⟩
theorem cpS_lt (x y : ByteArray) : cpS x y < 0 ↔ x.data.toList < y.data.toList := by
  rw [← toList_data, ← toList_data]
  unfold cpS
  rw [bLess_eq]
  by_cases h : x.toList < y.toList
  · simp [h]
  · by_cases h2 : (x.toList == y.toList) = true <;> simp [h, h2]
theorem cpS_zero (x y : ByteArray) : cpS x y = 0 ↔ x = y := by
  unfold cpS
  constructor
  · intro h
    by_cases h1 : Op.bytesLess x.toList y.toList = true
    · rw [if_pos h1] at h; omega
    · rw [if_neg h1] at h
      by_cases h2 : (x.toList == y.toList) = true
      · exact sEq_iff.1 h2
      · rw [if_neg h2] at h; omega
  · rintro rfl
    rw [if_neg (by rw [bLess_eq]; simp [List.lt_irrefl]), if_pos (by simp)]

end Go.Proofs.YtidfhgpjpieajaaDoor
