/-
  DERIVED. GIVEN WITH THE SEED: THE CARDS: each row of YtccmcdjcpipkiaaDoorRows.lean that lists a variable, with what it lists TIED to the program's text (the seventh form; the later family's looks); each row that meets fmt, with fmt's text TOLD by the authors' own Lean function (tested against real Go, not proved from fmt's source: count such statements apart). THE CARD IS WHAT COUNTS. Prove the row's statement (the work); the ties are given (YtccmcdjcpipkiaaDoorTie.lean); close each card by the builder's one call (the guide's Derived/Test/ToyasCard.lean, 'card_holds'). Laid BY PROGRAM, IN A SANDBOX (cutbox-door.mjs). By AI agents, Wed Nov 11 2026. No macro, syntax, notation, axiom, sorry.
-/
import Derived.Test.YtccmcdjcpipkiaaDoorRows
import GoSem.ClaimSeven
namespace Go.Proofs.YtccmcdjcpipkiaaDoor
namespace Rows

/-- THE TIED CARD OF 'coillaw.BagsCounted'. -/
def bagsCountedCard : Claim7 := { stood := { row := bagsCountedRow, standIns := [], harness := (true, "9f0a8f17c17d3d337b926ddd0e5d3fbd1b12cbc18c75621e757803475983f642"), looks := false }, kinds := [], alts := [], laidByText := true, laidKinds := [.data, .data, .data, .pinned], laidTests := true, laidLooks := .later }
def BagsCountedCardSaid : Prop := Claim7.holds Tryd.pinned (.plain (OpenSpec.ofChange bagsCountedSpec)) bagsCountedCard

/-- THE TIED CARD OF 'coilkeep.ChancesAddUp'. -/
def chancesAddUpCard : Claim7 := { stood := { row := chancesAddUpRow, standIns := [], harness := (true, "9f0a8f17c17d3d337b926ddd0e5d3fbd1b12cbc18c75621e757803475983f642"), looks := false }, kinds := [], alts := [], laidByText := true, laidKinds := [.data, .data], laidTests := true, laidLooks := .later }
def ChancesAddUpCardSaid : Prop := Claim7.holds Tryd.pinned (.plain (OpenSpec.ofChange chancesAddUpSpec)) chancesAddUpCard

/-- THE SECOND FORM's CARD OF 'coillaw.BagsCounted'. -/
def bagsCountedUptoCard : Claim7 := { stood := { row := bagsCountedUptoRow, standIns := [], harness := (true, "9f0a8f17c17d3d337b926ddd0e5d3fbd1b12cbc18c75621e757803475983f642"), looks := false }, kinds := [], alts := [], laidByText := true, laidKinds := [.data, .data, .data, .pinned], laidTests := true, laidLooks := .later }
def BagsCountedUptoCardSaid : Prop := Claim7.holds Tryd.pinned (.plain (OpenSpec.upto bagsCountedSpec)) bagsCountedUptoCard

/-- THE SECOND FORM's CARD OF 'coilkeep.ChancesAddUp'. -/
def chancesAddUpUptoCard : Claim7 := { stood := { row := chancesAddUpUptoRow, standIns := [], harness := (true, "9f0a8f17c17d3d337b926ddd0e5d3fbd1b12cbc18c75621e757803475983f642"), looks := false }, kinds := [], alts := [], laidByText := true, laidKinds := [.data, .data], laidTests := true, laidLooks := .later }
def ChancesAddUpUptoCardSaid : Prop := Claim7.holds Tryd.pinned (.plain (OpenSpec.upto chancesAddUpSpec)) chancesAddUpUptoCard
end Rows
end Go.Proofs.YtccmcdjcpipkiaaDoor
