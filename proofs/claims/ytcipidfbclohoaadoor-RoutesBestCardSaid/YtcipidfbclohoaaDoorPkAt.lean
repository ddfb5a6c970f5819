/- Pick and one of numbers and words that lie in a literal; the world's size under another name. -/
import Derived.Test.YtcipidfbclohoaaDoorTerms
import Derived.Test.YtcipidfbclohoaaDoorOne
namespace Go.Proofs.YtcipidfbclohoaaDoor
open Go.RowKit
variable {Q : Nat → Prop}
theorem pick_n (bs : Nat) (L : List Int) (t : Nat) (vs : List Int) (w : World) (N : Nat) (hN : w.heap.size = N) (hs : StrQ Q w bs L t) (ht : t ≤ 1000000) (hl : vs ≠ []) (hl1 : vs.length ≤ 100000) (T : TypeId) :
    Calls Tryd.prog 7 #[.pointer (some ⟨bs, 0, none⟩), .slice (some ⟨N, 0, none⟩) vs.length vs.length] (w.alloc (.cells (ints vs).toArray T))
      fun e w' => e = .returned (.int .i64 (pk L t vs)) ∧ StrQ Q w' bs L (t + 1) ∧ w.grownBy w' (some bs) := by
  subst hN; exact pick_lit bs L t vs w hs ht hl hl1 T
theorem one_n (bs : Nat) (L : List Int) (t : Nat) (vs : List ByteArray) (w : World) (N : Nat) (hN : w.heap.size = N) (hs : StrQ Q w bs L t) (ht : t ≤ 1000000) (hl : vs ≠ []) (hl1 : vs.length ≤ 100000) (T : TypeId) :
    Calls Tryd.prog 31 #[.pointer (some ⟨bs, 0, none⟩), .slice (some ⟨N, 0, none⟩) vs.length vs.length] (w.alloc (.cells (strs vs).toArray T))
      fun e w' => e = .returned (.string (pkS L t vs)) ∧ StrQ Q w' bs L (t + 1) ∧ w.grownBy w' (some bs) := by
  subst hN; exact one_lit bs L t vs w hs ht hl hl1 T
end Go.Proofs.YtcipidfbclohoaaDoor
