/- The walk of cmp.Compare over numbers. -/
import Derived.Test.YtoneebofjbnjpaaDoorMem
import Derived.Test.YtoneebofjbnjpaaDoorProg
namespace Go.Proofs.YtoneebofjbnjpaaDoor
open Go.RowKit

theorem isNaN_any (x : Int) (w : World) : Calls Tryd.prog 95 #[.int .i64 x] w fun e w' => e = .returned (.bool false) ∧ w' = w := by
  have h : (x != x) = false := by simp
  go_enter Tryd.func95, Tryd.ntmps95
  go_wp2_with fail
  go_ret
  exact ⟨rfl, rfl⟩

def cpI (x y : Int) : Int := if x < y then -1 else if y < x then 1 else 0
theorem compareI_any (x y : Int) (w : World) : Calls Tryd.prog 59 #[.int .i64 x, .int .i64 y] w fun e w' => e = .returned (.int .i64 (cpI x y)) ∧ w' = w := by
  rcases Int.lt_trichotomy x y with h | h | h
  · have e : cpI x y = -1 := by simp [cpI, h]
    have HE := Lib.hid e
    clear e
    go_enter Tryd.func59, Tryd.ntmps59
    go_wp2_with (go_at_call 95; refine (isNaN_any _ _).mono ?_; rintro e w' ⟨rfl, rfl⟩)
    go_ret
    exact ⟨by rw [HE.out]; rfl, rfl⟩
  · subst h
    have e : cpI x x = 0 := by simp [cpI]
    have h : ¬ x < x := by omega
    have HE := Lib.hid e
    clear e
    go_enter Tryd.func59, Tryd.ntmps59
    go_wp2_with (go_at_call 95; refine (isNaN_any _ _).mono ?_; rintro e w' ⟨rfl, rfl⟩)
    go_ret
    exact ⟨by rw [HE.out]; rfl, rfl⟩
  · have h2 : ¬ x < y := by omega
    have e : cpI x y = 1 := by simp [cpI, h, h2]
    have HE := Lib.hid e
    clear e
    go_enter Tryd.func59, Tryd.ntmps59
    go_wp2_with (go_at_call 95; refine (isNaN_any _ _).mono ?_; rintro e w' ⟨rfl, rfl⟩)
    go_ret
    exact ⟨by rw [HE.out]; rfl, rfl⟩

theorem cpI_lt (x y : Int) : decide (cpI x y < 0) = decide (x < y) := by
  unfold cpI; split
  · simp [*]
  · split <;> simp [*]

end Go.Proofs.YtoneebofjbnjpaaDoor
