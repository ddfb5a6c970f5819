/- The walk of tills: till.Even(7, 2). -/
import Derived.Test.YtccmcdjcpipkiaaDoorTerms
namespace Go.Proofs.YtccmcdjcpipkiaaDoor
open Go.RowKit

set_option maxRecDepth 100000 in
theorem even72_any (w : World) : Calls Tryd.prog 52 #[.int .i64 7, .int .i64 2] w fun e w' => e = .returned (.int .i64 4) ∧ w.grownBy w' none := by
  go_enter Tryd.func52, Tryd.ntmps52
  go_wp2_with fail
  go_quiet (fail)
  go_wp2_with fail
  go_ret
  exact ⟨rfl, grown_drewN (grown_refl w) _⟩

set_option maxRecDepth 100000 in
theorem evenCall_any (w : World) : Calls Tryd.prog 37 #[.int .i64 7, .int .i64 2] w fun e w' => e = .returned (.tuple #[.int .i64 4, .int .i64 0]) ∧ w.grownBy w' none := by
  go_enter Tryd.func37, Tryd.ntmps37
  go_wp2_with fail
  refine (between_any 7 (-1000000000000000) 1000000000000000 w).mono ?_
  rintro e w1 ⟨rfl, rfl⟩
  rw [show btw 7 (-1000000000000000) 1000000000000000 = true from rfl]
  go_wp2_with fail
  refine (between_any 2 1 1000000000 w).mono ?_
  rintro e w1 ⟨rfl, rfl⟩
  rw [show btw 2 1 1000000000 = true from rfl]
  go_wp2_with fail
  refine (even72_any w).mono ?_
  rintro e w1 ⟨rfl, hg⟩
  go_wp2_with fail
  go_ret2
  exact ⟨rfl, hg⟩

set_option maxRecDepth 100000 in
theorem tillsL_any (w : World) : Calls Tryd.prog 16 #[] w fun e w' => e = .returned (.bool true) ∧ w.grownBy w' none := by
  go_enter Tryd.func16, Tryd.ntmps16
  go_wp2_with fail
  refine (evenCall_any w).mono ?_
  rintro e w1 ⟨rfl, hg⟩
  go_wp2_with fail
  go_ret
  exact ⟨rfl, hg⟩

set_option maxRecDepth 100000 in
theorem tillsK_any (w : World) : Calls Tryd.prog 22 #[] w fun e w' => e = .returned (.bool true) ∧ w.grownBy w' none := by
  go_enter Tryd.func22, Tryd.ntmps22
  go_wp2_with fail
  refine (evenCall_any w).mono ?_
  rintro e w1 ⟨rfl, hg⟩
  go_wp2_with fail
  go_ret
  exact ⟨rfl, hg⟩

end Go.Proofs.YtccmcdjcpipkiaaDoor
