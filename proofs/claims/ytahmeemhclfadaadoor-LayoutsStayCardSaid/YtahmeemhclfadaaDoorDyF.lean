/- The walk of the reference's DayFault. -/
import Derived.Test.YtahmeemhclfadaaDoorIdx
namespace Go.Proofs.YtahmeemhclfadaaDoor
open Go.RowKit

theorem btw_false {n a b : Int} : btw n a b = false ↔ n < a ∨ b < n := by
  rw [← Bool.not_eq_true, btw_true]; omega
theorem dayF1_any (x : Int) (w : World) : Calls Tryd.prog 83 #[.int .i64 x] w fun e w' => e = .returned (.bool (!(btw x 0 4000))) ∧ w = w' := by
  by_cases h1 : x < 0
  · go_enter Tryd.func83, Tryd.ntmps83
    go_wp2_with fail
    go_ret
    exact ⟨retB (by rw [btw_false.2 (.inl h1)]; rfl), rfl⟩
  · by_cases h2 : 4000 < x
    · go_enter Tryd.func83, Tryd.ntmps83
      go_wp2_with fail
      go_ret
      exact ⟨retB (by rw [btw_false.2 (.inr h2)]; rfl), rfl⟩
    · go_enter Tryd.func83, Tryd.ntmps83
      go_wp2_with fail
      go_ret
      exact ⟨retB (by rw [btw_true.2 (by omega)]; rfl), rfl⟩

/-- ErrArg of days. -/
def dayFs (l : List Int) : Int := if (l.any fun x => !(btw x 0 4000)) = true then 1 else 0
theorem dayFault_any (A : Option Addr) (n c : Nat) (l : List Int) (w : World) (hr : Rd w 1 A n (ints l)) (hn : n ≤ 1000000) (he : Enters Tryd.prog 83) :
    Calls Tryd.prog 40 #[.slice A n c] w fun e w' => e = .returned (.int .i64 (dayFs l)) ∧ w.grownBy w' none := by
  have hc := containsFunc_any 83 (fun x => !(btw x 0 4000)) A n c l w hr hn he (fun x w1 => dayF1_any x w1)
  unfold dayFs
  generalize (l.any fun x => !(btw x 0 4000)) = q at *
  have HC := Lib.hid hc
  clear hc
  cases q
  · go_enter Tryd.func40, Tryd.ntmps40
    go_wp2_with fail
    refine HC.out.mono ?_
    rintro e w1 ⟨rfl, hg1⟩
    go_wp2_with fail
    go_ret
    exact ⟨rfl, hg1⟩
  · go_enter Tryd.func40, Tryd.ntmps40
    go_wp2_with fail
    refine HC.out.mono ?_
    rintro e w1 ⟨rfl, hg1⟩
    go_wp2_with fail
    go_ret
    exact ⟨rfl, hg1⟩
theorem dayFault_one (d : Int) (w : World) (he : Enters Tryd.prog 83) :
    Calls Tryd.prog 40 #[.slice (some ⟨w.heap.size, 0, none⟩) 1 1] (w.alloc (.cells #[.int .i64 d] 3)) fun e w' => e = .returned (.int .i64 (if btw d 0 4000 = false then 1 else 0)) ∧ w.grownBy w' none := by
  have h := dayFault_any (some ⟨w.heap.size, 0, none⟩) 1 1 [d] _ (rd_new w [d] 3) (by omega) he
  refine h.mono ?_
  rintro e w' ⟨rfl, hg⟩
  refine ⟨?_, (grown_alloc (grown_refl w) _).trans hg⟩
  unfold dayFs
  cases h : btw d 0 4000 <;> simp [h]

end Go.Proofs.YtahmeemhclfadaaDoor
