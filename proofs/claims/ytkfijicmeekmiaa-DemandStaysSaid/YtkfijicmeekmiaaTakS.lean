/- What the laws about tables lay. -/
import Derived.Test.YtkfijicmeekmiaaTable
import Derived.Test.YtkfijicmeekmiaaNumbs
import Derived.Test.YtkfijicmeekmiaaInsO
import Derived.Test.YtkfijicmeekmiaaInsE
import Derived.Test.YtkfijicmeekmiaaInsR
import Derived.Test.YtkfijicmeekmiaaIn
namespace Go.Proofs.Ytkfijicmeekmiaa
open Go.RowKit

/-- A table, what is wanted and what is there lie in the world. -/
structure TakSt (w0 wx : World) (base gT : Nat) (A AW AS : Option Addr) (c cW cS : Nat) (T : List (List Int)) (W S : List Int) : Prop where
  box : Blk wx gT 70 #[.slice A T.length c]
  tab : RdT wx base A T
  wants : Rd wx 1 AW W.length (ints W)
  stock : Rd wx 1 AS S.length (ints S)
  capW : AW = none → cW = 0
  capS : AS = none → cS = 0
  gro : w0.grownBy wx none
theorem TakSt.grown {w0 wx wy : World} {base gT : Nat} {A AW AS : Option Addr} {c cW cS : Nat} {T : List (List Int)} {W S : List Int} (h : TakSt w0 wx base gT A AW AS c cW cS T W S) (hg : wx.grownBy wy none) : TakSt w0 wy base gT A AW AS c cW cS T W S :=
  ⟨h.box.grown hg (by simp), h.tab.grown hg, h.wants.grown hg, h.stock.grown hg, h.capW, h.capS, h.gro.trans hg⟩

end Go.Proofs.Ytkfijicmeekmiaa
