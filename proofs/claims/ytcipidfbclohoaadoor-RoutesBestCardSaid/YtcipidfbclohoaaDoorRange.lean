/- The walk of the stream's Range. -/
import Derived.Test.YtcipidfbclohoaaDoorTerms
namespace Go.Proofs.YtcipidfbclohoaaDoor
open Go.RowKit
variable {Q : Nat → Prop}
















end Go.Proofs.YtcipidfbclohoaaDoor
