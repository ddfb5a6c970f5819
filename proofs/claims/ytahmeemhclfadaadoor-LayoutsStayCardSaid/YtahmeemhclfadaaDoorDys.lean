/- The walk of the stream's Day. -/
import Derived.Test.YtahmeemhclfadaaDoorTerms
namespace Go.Proofs.YtahmeemhclfadaaDoor
open Go.RowKit
variable {Q : Nat → Prop}

def dayM (L : List Int) (t : Nat) : Int := pk L (t + 1) [0, 2, 3, 5, 6, 8, pk L t [4, -1, 4000, 4001]]
set_option maxRecDepth 100000 in
theorem day_any (bs : Nat) (L : List Int) (t : Nat) (w : World) (hs : StrQ Q w bs L t) (ht : t ≤ 900000) :
    Calls Tryd.prog 34 #[.pointer (some ⟨bs, 0, none⟩)] w
      fun e w' => e = .returned (.int .i64 (dayM L t)) ∧ StrQ Q w' bs L (t + 1 + 1) ∧ w.grownBy w' (some bs) := by
  go_enter Tryd.func34, Tryd.ntmps34
  go_wp2_with fail
  refine (pick_lit bs L t [4, -1, 4000, 4001] _ hs (by omega) (by decide) (by decide) 3).mono ?_
  rintro e w1 ⟨rfl, hst1, hg1⟩
  go_wp2_with fail
  refine (pick_lit bs L _ [0, 2, 3, 5, 6, 8, pk L t [4, -1, 4000, 4001]] _ hst1 (by omega) (by simp) (by simp) 3).mono ?_
  rintro e w2 ⟨rfl, hst2, hg2⟩
  go_wp2_with fail
  go_ret
  exact ⟨rfl, hst2, hg1.trans hg2⟩

end Go.Proofs.YtahmeemhclfadaaDoor
