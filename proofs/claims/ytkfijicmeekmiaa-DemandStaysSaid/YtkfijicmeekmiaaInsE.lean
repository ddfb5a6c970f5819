/- Instead with an error. -/
import Derived.Test.YtkfijicmeekmiaaIns
namespace Go.Proofs.Ytkfijicmeekmiaa
open Go.RowKit

set_option maxRecDepth 100000 in
set_option maxHeartbeats 1000000 in
theorem instead_bad (base : Nat) (A B C : Option Addr) (c cb cs : Nat) (R : List (List Int)) (W S : List Int) (w : World) (hr : RdT w base A R) (hn : R.length ≤ 100000) (hW : Rd w 1 B W.length (ints W)) (hS : Rd w 1 C S.length (ints S)) (hW1 : W.length ≤ 100000) (hS1 : S.length ≤ 100000) (hF : insF R W S ≠ 0) :
    Calls Try.prog 59 #[.agg #[.slice A R.length c], .slice B W.length cb, .slice C S.length cs] w
      fun e w' => e = .returned (.tuple #[.slice none 0 0, .slice none 0 0, .int .i64 (insF R W S)]) ∧ w.grownBy w' none := by
  have hg0 := grown_alloc (grown_refl w) (.cells #[.slice A R.length c] 70)
  have c0 := (Blk.new w 70 #[.slice A R.length c]).cell 0
  have hct := checkInstead_any base A B C c cb cs R W S _ (hr.grown hg0) hn (hW.grown hg0) (hS.grown hg0) (by omega) (by omega)
  have hne : (insF R W S != 0) = true := by rw [bne_iff_ne]; exact hF
  generalize insF R W S = f at *
  have HC := Lib.hid hct
  clear hct hF
  go_enter Try.func59, Try.ntmps59
  go_wp2_with fail
  refine HC.out.mono ?_
  rintro e w1 ⟨rfl, hg1⟩
  go_wp2_with fail
  go_ret3
  exact ⟨rfl, hg0.trans hg1⟩

end Go.Proofs.Ytkfijicmeekmiaa
