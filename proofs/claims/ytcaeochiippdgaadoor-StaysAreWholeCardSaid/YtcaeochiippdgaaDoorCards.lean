/-
  DERIVED. GIVEN WITH THE SEED: THE CARDS: each row of YtcaeochiippdgaaDoorRows.lean that lists a variable, with what it lists TIED to the program's text (the seventh form; the later family's looks); each row that meets fmt, with fmt's text TOLD by the authors' own Lean function (tested against real Go, not proved from fmt's source: count such statements apart). THE CARD IS WHAT COUNTS. Prove the row's statement (the work); the ties are given (YtcaeochiippdgaaDoorTie.lean); close each card by the builder's one call (the guide's Derived/Test/ToyasCard.lean, 'card_holds'). Laid BY PROGRAM, IN A SANDBOX (cutbox-door.mjs). By AI agents, Wed Nov 11 2026. No macro, syntax, notation, axiom, sorry.
-/
import Derived.Test.YtcaeochiippdgaaDoorRows
import GoSem.ClaimSeven
namespace Go.Proofs.YtcaeochiippdgaaDoor
namespace Rows

/-- THE TIED CARD OF 'coilkeep.StaysAreWhole'. -/
def staysAreWholeCard : Claim7 := { stood := { row := staysAreWholeRow, standIns := [], harness := (true, "d679f365fce044494477bf5ad6207c480af47f0df4525ba0e6dcfc36797eef4c"), looks := false }, kinds := [], alts := [], laidByText := true, laidKinds := [.data, .pinned], laidTests := true, laidLooks := .later }
def StaysAreWholeCardSaid : Prop := Claim7.holds Tryd.pinned (.plain (OpenSpec.ofChange staysAreWholeSpec)) staysAreWholeCard

/-- THE SECOND FORM's CARD OF 'coilkeep.StaysAreWhole'. -/
def staysAreWholeUptoCard : Claim7 := { stood := { row := staysAreWholeUptoRow, standIns := [], harness := (true, "d679f365fce044494477bf5ad6207c480af47f0df4525ba0e6dcfc36797eef4c"), looks := false }, kinds := [], alts := [], laidByText := true, laidKinds := [.data, .pinned], laidTests := true, laidLooks := .later }
def StaysAreWholeUptoCardSaid : Prop := Claim7.holds Tryd.pinned (.plain (OpenSpec.upto staysAreWholeSpec)) staysAreWholeUptoCard
end Rows
end Go.Proofs.YtcaeochiippdgaaDoor
