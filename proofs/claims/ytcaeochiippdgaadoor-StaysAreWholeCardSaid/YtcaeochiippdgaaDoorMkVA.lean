/- The walk of the stream's Versions, of every length. -/
import Derived.Test.YtcaeochiippdgaaDoorMkV0
import Derived.Test.YtcaeochiippdgaaDoorMkV1
import Derived.Test.YtcaeochiippdgaaDoorMkV2
import Derived.Test.YtcaeochiippdgaaDoorMkV3
namespace Go.Proofs.YtcaeochiippdgaaDoor
open Go.RowKit
variable {Q : Nat → Prop}

theorem versions_any (bs : Nat) (L : List Int) (t : Nat) (w : World) (hs : StrQ Q w bs L t) (ht : t ≤ 800000) :
    Calls Tryd.prog 4 #[.pointer (some ⟨bs, 0, none⟩)] w (VerPost Q w bs L (versM L t)) := by
  obtain ⟨a0, a1⟩ := nx_in L t 4 (by omega)
  have h : nx L t 4 = 0 ∨ nx L t 4 = 1 ∨ nx L t 4 = 2 ∨ nx L t 4 = 3 := by omega
  rcases h with h | h | h | h
  · exact versions_n0 bs L t w hs ht h
  · exact versions_n1 bs L t w hs ht h
  · exact versions_n2 bs L t w hs ht h
  · exact versions_n3 bs L t w hs ht h

end Go.Proofs.YtcaeochiippdgaaDoor
