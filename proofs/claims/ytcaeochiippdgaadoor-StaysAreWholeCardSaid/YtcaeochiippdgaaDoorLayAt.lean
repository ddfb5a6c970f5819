/- The walk of the reference's LayoutAt. -/
import Derived.Test.YtcaeochiippdgaaDoorVer
namespace Go.Proofs.YtcaeochiippdgaaDoor
open Go.RowKit

theorem lastV_succ_hit {l : List Ver} {d : Int} {p : Nat} {t : Ver} (ht : l[p]? = some t) (h : t.f ≤ d) : lastV l d (p + 1) = p + 1 := by
  unfold lastV
  rw [if_pos]
  simp [List.getD, ht, h]
theorem lastV_succ_miss {l : List Ver} {d : Int} {p : Nat} {t : Ver} (ht : l[p]? = some t) (h : d < t.f) : lastV l d (p + 1) = lastV l d p := by
  conv => lhs; unfold lastV
  rw [if_neg]
  simp [List.getD, ht]; omega


























































end Go.Proofs.YtcaeochiippdgaaDoor
