/-
  No cell of these rows narrows 'for every input' (looked for: loops, veiled, ifaces, maps, wideKeys, modest, calm, conditions, laid).
  DERIVED. THE GIVEN ROWS OF THIS SEAT. 5 by the template 'for every input the law returns true; each argument reads behind the call as it read before'; 0 by the template 'total and deterministic' (their statements: YtoaeflegcfecaaaTotals.lean).
  GIVEN WITH THE SEED: the statements are not yours to turn. If you find one false, say at which input.
  Laid BY PROGRAM, IN A SANDBOX (cutbox-rows.mjs): the forced cells as the released guide's own fill.sh prints them over the translation f915c9b759d08a46… (all of the seat's roots in one cut). By AI agents, Wed Nov 11 2026. No macro, syntax, notation, axiom, sorry.
-/
import Derived.Test.YtoaeflegcfecaaaChecked
import GoSem.Claim
import GoSem.ClaimJoined
import GoSem.ClaimMapViews
import Derived.JoinedTies
import Derived.KernelRfl
namespace Go.Proofs.Ytoaeflegcfecaaa
/- THE CELL 'sum', in the pinned program and in every row, IS THE sha256 OF THE DUMP (.gsa) THAT YtoaeflegcfecaaaProg.lean LOADS. Nothing in Lean hashes anything: it is a label: what it is worth is what the hold of that sum in a sandbox is worth. -/
noncomputable def Try.pinned : Pinned := { name := "ytoaeflegcfecaaa", sum := "f915c9b759d08a4650ae6397e884a710f9065379e2706413cefccaa2d2cf2b17", checked := Try.checked }
namespace Rows
def none {H : Type} : Left H := { results := [], args := [] }

/-- 'coillaw.ChangePaid': WHATEVER THE INPUT: true; the input reads as it did. -/
def changePaidSpec : ChangeSpec := { name := "changePaid", fn := fun _ => fun
  | [d] => { results := [.lit (.bool true)], args := [d] }
  | _ => none }
def changePaidRow : OpenClaim := { program := "ytoaeflegcfecaaa", sum := "f915c9b759d08a4650ae6397e884a710f9065379e2706413cefccaa2d2cf2b17", func := "coilrack/coillaw.ChangePaid", spec := "changePaid", unfollowed := true, recurses := true, apart := false }
def ChangePaidSaid : Prop := changePaidRow.holds Try.pinned (OpenSpec.ofChange changePaidSpec)

/-- ITS FALSE NEIGHBOUR: 'it returns false'. Refute it at one input. -/
def changePaidWrong : ChangeSpec := { name := "changePaid", fn := fun _ => fun
  | [d] => { results := [.lit (.bool false)], args := [d] }
  | _ => none }
def ChangePaidWrongFalsely : Prop := changePaidRow.holds Try.pinned (OpenSpec.ofChange changePaidWrong)

/-- 'coillaw.AmountsReached': WHATEVER THE INPUT: true; the input reads as it did. -/
def amountsReachedSpec : ChangeSpec := { name := "amountsReached", fn := fun _ => fun
  | [d] => { results := [.lit (.bool true)], args := [d] }
  | _ => none }
def amountsReachedRow : OpenClaim := { program := "ytoaeflegcfecaaa", sum := "f915c9b759d08a4650ae6397e884a710f9065379e2706413cefccaa2d2cf2b17", func := "coilrack/coillaw.AmountsReached", spec := "amountsReached", unfollowed := true, recurses := true, apart := false }
def AmountsReachedSaid : Prop := amountsReachedRow.holds Try.pinned (OpenSpec.ofChange amountsReachedSpec)

/-- ITS FALSE NEIGHBOUR: 'it returns false'. Refute it at one input. -/
def amountsReachedWrong : ChangeSpec := { name := "amountsReached", fn := fun _ => fun
  | [d] => { results := [.lit (.bool false)], args := [d] }
  | _ => none }
def AmountsReachedWrongFalsely : Prop := amountsReachedRow.holds Try.pinned (OpenSpec.ofChange amountsReachedWrong)

/-- 'coillaw.CoinsSettled': WHATEVER THE INPUT: true; the input reads as it did. -/
def coinsSettledSpec : ChangeSpec := { name := "coinsSettled", fn := fun _ => fun
  | [d] => { results := [.lit (.bool true)], args := [d] }
  | _ => none }
def coinsSettledRow : OpenClaim := { program := "ytoaeflegcfecaaa", sum := "f915c9b759d08a4650ae6397e884a710f9065379e2706413cefccaa2d2cf2b17", func := "coilrack/coillaw.CoinsSettled", spec := "coinsSettled", unfollowed := true, recurses := true, apart := false }
def CoinsSettledSaid : Prop := coinsSettledRow.holds Try.pinned (OpenSpec.ofChange coinsSettledSpec)

/-- ITS FALSE NEIGHBOUR: 'it returns false'. Refute it at one input. -/
def coinsSettledWrong : ChangeSpec := { name := "coinsSettled", fn := fun _ => fun
  | [d] => { results := [.lit (.bool false)], args := [d] }
  | _ => none }
def CoinsSettledWrongFalsely : Prop := coinsSettledRow.holds Try.pinned (OpenSpec.ofChange coinsSettledWrong)

/-- 'coilkeep.ChangeIsExact': WHATEVER THE INPUT: true; the input reads as it did. -/
def changeIsExactSpec : ChangeSpec := { name := "changeIsExact", fn := fun _ => fun
  | [d] => { results := [.lit (.bool true)], args := [d] }
  | _ => none }
def changeIsExactRow : OpenClaim := { program := "ytoaeflegcfecaaa", sum := "f915c9b759d08a4650ae6397e884a710f9065379e2706413cefccaa2d2cf2b17", func := "coilrack/coilkeep.ChangeIsExact", spec := "changeIsExact", unfollowed := true, recurses := true, apart := false }
def ChangeIsExactSaid : Prop := changeIsExactRow.holds Try.pinned (OpenSpec.ofChange changeIsExactSpec)

/-- ITS FALSE NEIGHBOUR: 'it returns false'. Refute it at one input. -/
def changeIsExactWrong : ChangeSpec := { name := "changeIsExact", fn := fun _ => fun
  | [d] => { results := [.lit (.bool false)], args := [d] }
  | _ => none }
def ChangeIsExactWrongFalsely : Prop := changeIsExactRow.holds Try.pinned (OpenSpec.ofChange changeIsExactWrong)

/-- 'coilkeep.CoinsStay': WHATEVER THE INPUT: true; the input reads as it did. -/
def coinsStaySpec : ChangeSpec := { name := "coinsStay", fn := fun _ => fun
  | [d] => { results := [.lit (.bool true)], args := [d] }
  | _ => none }
def coinsStayRow : OpenClaim := { program := "ytoaeflegcfecaaa", sum := "f915c9b759d08a4650ae6397e884a710f9065379e2706413cefccaa2d2cf2b17", func := "coilrack/coilkeep.CoinsStay", spec := "coinsStay", unfollowed := true, recurses := true, apart := false }
def CoinsStaySaid : Prop := coinsStayRow.holds Try.pinned (OpenSpec.ofChange coinsStaySpec)

/-- ITS FALSE NEIGHBOUR: 'it returns false'. Refute it at one input. -/
def coinsStayWrong : ChangeSpec := { name := "coinsStay", fn := fun _ => fun
  | [d] => { results := [.lit (.bool false)], args := [d] }
  | _ => none }
def CoinsStayWrongFalsely : Prop := coinsStayRow.holds Try.pinned (OpenSpec.ofChange coinsStayWrong)

/- THE SECOND FORM. 'bulk': how many values and letters a reading holds, each counted each time it is reached (what is shared counts as often as it is met; a slice's spare places count too). A statement '..UptoSaid' is the law's where the arguments, and the package variables that the reading takes, are together of bulk at most 1048576: NARROWER than '..Said'. Prove '..Said' where nothing that the law and all that it calls make is longer than what came in: it says more and counts as full. Else prove '..UptoSaid'. A law counts once. -/
mutual
def uptoBulk {H : Type} : DataW H → Nat
  | .lit (.string bytes) => bytes.length + 1
  | .lit _ => 1
  | .nil => 1
  | .ptr d => uptoBulk d + 1
  | .slice elems spare => uptoBulkAll elems + uptoBulkAll spare + 1
  | .agg parts => uptoBulkAll parts + 1
  | .iface _ d => uptoBulk d + 1
  | .map entries => uptoBulkEntries entries + 1
  | .held _ => 1
def uptoBulkAll {H : Type} : List (DataW H) → Nat
  | [] => 0
  | d :: r => uptoBulk d + uptoBulkAll r
def uptoBulkEntries {H : Type} : List (Lit × DataW H) → Nat
  | [] => 0
  | x :: r => uptoBulkEntry x + uptoBulkEntries r
def uptoBulkEntry {H : Type} : Lit × DataW H → Nat
  | (.string bytes, d) => bytes.length + uptoBulk d + 1
  | (_, d) => uptoBulk d + 1
 end
def uptoSmall : (H : Type) → List (DataW H) → Bool := fun _ ds => decide (uptoBulkAll ds ≤ 1048576)
def OpenSpec.upto (s : _root_.Go.ChangeSpec) : _root_.Go.OpenSpec := { _root_.Go.OpenSpec.ofChange s with cond := some uptoSmall }

/-- 'coillaw.ChangePaid', WHERE WHAT IT READS IS OF BULK AT MOST 1048576: true; the input reads as it did. -/
def changePaidUptoRow : OpenClaim := { program := "ytoaeflegcfecaaa", sum := "f915c9b759d08a4650ae6397e884a710f9065379e2706413cefccaa2d2cf2b17", func := "coilrack/coillaw.ChangePaid", spec := "changePaid", unfollowed := true, recurses := true, apart := false, narrowed := true }
def ChangePaidUptoSaid : Prop := changePaidUptoRow.holds Try.pinned (OpenSpec.upto changePaidSpec)

/-- 'coillaw.AmountsReached', WHERE WHAT IT READS IS OF BULK AT MOST 1048576: true; the input reads as it did. -/
def amountsReachedUptoRow : OpenClaim := { program := "ytoaeflegcfecaaa", sum := "f915c9b759d08a4650ae6397e884a710f9065379e2706413cefccaa2d2cf2b17", func := "coilrack/coillaw.AmountsReached", spec := "amountsReached", unfollowed := true, recurses := true, apart := false, narrowed := true }
def AmountsReachedUptoSaid : Prop := amountsReachedUptoRow.holds Try.pinned (OpenSpec.upto amountsReachedSpec)

/-- 'coillaw.CoinsSettled', WHERE WHAT IT READS IS OF BULK AT MOST 1048576: true; the input reads as it did. -/
def coinsSettledUptoRow : OpenClaim := { program := "ytoaeflegcfecaaa", sum := "f915c9b759d08a4650ae6397e884a710f9065379e2706413cefccaa2d2cf2b17", func := "coilrack/coillaw.CoinsSettled", spec := "coinsSettled", unfollowed := true, recurses := true, apart := false, narrowed := true }
def CoinsSettledUptoSaid : Prop := coinsSettledUptoRow.holds Try.pinned (OpenSpec.upto coinsSettledSpec)

/-- 'coilkeep.ChangeIsExact', WHERE WHAT IT READS IS OF BULK AT MOST 1048576: true; the input reads as it did. -/
def changeIsExactUptoRow : OpenClaim := { program := "ytoaeflegcfecaaa", sum := "f915c9b759d08a4650ae6397e884a710f9065379e2706413cefccaa2d2cf2b17", func := "coilrack/coilkeep.ChangeIsExact", spec := "changeIsExact", unfollowed := true, recurses := true, apart := false, narrowed := true }
def ChangeIsExactUptoSaid : Prop := changeIsExactUptoRow.holds Try.pinned (OpenSpec.upto changeIsExactSpec)

/-- 'coilkeep.CoinsStay', WHERE WHAT IT READS IS OF BULK AT MOST 1048576: true; the input reads as it did. -/
def coinsStayUptoRow : OpenClaim := { program := "ytoaeflegcfecaaa", sum := "f915c9b759d08a4650ae6397e884a710f9065379e2706413cefccaa2d2cf2b17", func := "coilrack/coilkeep.CoinsStay", spec := "coinsStay", unfollowed := true, recurses := true, apart := false, narrowed := true }
def CoinsStayUptoSaid : Prop := coinsStayUptoRow.holds Try.pinned (OpenSpec.upto coinsStaySpec)

end Rows
end Go.Proofs.Ytoaeflegcfecaaa
