/-
  DERIVED. GIVEN WITH THE SEED: THE CARDS: each row of YtidfhgpjpieajaaDoorRows.lean that lists a variable, with what it lists TIED to the program's text (the seventh form; the later family's looks); each row that meets fmt, with fmt's text TOLD by the authors' own Lean function (tested against real Go, not proved from fmt's source: count such statements apart). THE CARD IS WHAT COUNTS. Prove the row's statement (the work); the ties are given (YtidfhgpjpieajaaDoorTie.lean); close each card by the builder's one call (the guide's Derived/Test/ToyasCard.lean, 'card_holds'). Laid BY PROGRAM, IN A SANDBOX (cutbox-door.mjs). By AI agents, Wed Nov 11 2026. No macro, syntax, notation, axiom, sorry.
-/
import Derived.Test.YtidfhgpjpieajaaDoorRows
import GoSem.ClaimSeven
namespace Go.Proofs.YtidfhgpjpieajaaDoor
namespace Rows

/-- THE TIED CARD OF 'coillaw.LotsPicked'. -/
def lotsPickedCard : Claim7 := { stood := { row := lotsPickedRow, standIns := [], harness := (true, "f08ee4927ac8f35dcbb5b634048358a95dbfc710a16ec4ef53eaa207dacdabf1"), looks := false }, kinds := [], alts := [], laidByText := true, laidKinds := [.data, .pinned], laidTests := true, laidLooks := .later }
def LotsPickedCardSaid : Prop := Claim7.holds Tryd.pinned (.plain (OpenSpec.ofChange lotsPickedSpec)) lotsPickedCard

/-- THE TIED CARD OF 'coillaw.CoilsAge'. -/
def coilsAgeCard : Claim7 := { stood := { row := coilsAgeRow, standIns := [], harness := (true, "f08ee4927ac8f35dcbb5b634048358a95dbfc710a16ec4ef53eaa207dacdabf1"), looks := false }, kinds := [], alts := [], laidByText := true, laidKinds := [.data, .pinned], laidTests := true, laidLooks := .later }
def CoilsAgeCardSaid : Prop := Claim7.holds Tryd.pinned (.plain (OpenSpec.ofChange coilsAgeSpec)) coilsAgeCard

/-- THE TIED CARD OF 'coilkeep.PicksAreOldest'. -/
def picksAreOldestCard : Claim7 := { stood := { row := picksAreOldestRow, standIns := [], harness := (true, "f08ee4927ac8f35dcbb5b634048358a95dbfc710a16ec4ef53eaa207dacdabf1"), looks := false }, kinds := [], alts := [], laidByText := true, laidKinds := [.data, .pinned], laidTests := true, laidLooks := .later }
def PicksAreOldestCardSaid : Prop := Claim7.holds Tryd.pinned (.plain (OpenSpec.ofChange picksAreOldestSpec)) picksAreOldestCard

/-- THE TIED CARD OF 'coilkeep.CoilsKeepOrder'. -/
def coilsKeepOrderCard : Claim7 := { stood := { row := coilsKeepOrderRow, standIns := [], harness := (true, "f08ee4927ac8f35dcbb5b634048358a95dbfc710a16ec4ef53eaa207dacdabf1"), looks := false }, kinds := [], alts := [], laidByText := true, laidKinds := [.data, .pinned], laidTests := true, laidLooks := .later }
def CoilsKeepOrderCardSaid : Prop := Claim7.holds Tryd.pinned (.plain (OpenSpec.ofChange coilsKeepOrderSpec)) coilsKeepOrderCard

/-- THE TIED CARD OF 'coilkeep.StockStays'. -/
def stockStaysCard : Claim7 := { stood := { row := stockStaysRow, standIns := [], harness := (true, "f08ee4927ac8f35dcbb5b634048358a95dbfc710a16ec4ef53eaa207dacdabf1"), looks := false }, kinds := [], alts := [], laidByText := true, laidKinds := [.data, .pinned], laidTests := true, laidLooks := .later }
def StockStaysCardSaid : Prop := Claim7.holds Tryd.pinned (.plain (OpenSpec.ofChange stockStaysSpec)) stockStaysCard

/-- THE SECOND FORM's CARD OF 'coillaw.LotsPicked'. -/
def lotsPickedUptoCard : Claim7 := { stood := { row := lotsPickedUptoRow, standIns := [], harness := (true, "f08ee4927ac8f35dcbb5b634048358a95dbfc710a16ec4ef53eaa207dacdabf1"), looks := false }, kinds := [], alts := [], laidByText := true, laidKinds := [.data, .pinned], laidTests := true, laidLooks := .later }
def LotsPickedUptoCardSaid : Prop := Claim7.holds Tryd.pinned (.plain (OpenSpec.upto lotsPickedSpec)) lotsPickedUptoCard

/-- THE SECOND FORM's CARD OF 'coillaw.CoilsAge'. -/
def coilsAgeUptoCard : Claim7 := { stood := { row := coilsAgeUptoRow, standIns := [], harness := (true, "f08ee4927ac8f35dcbb5b634048358a95dbfc710a16ec4ef53eaa207dacdabf1"), looks := false }, kinds := [], alts := [], laidByText := true, laidKinds := [.data, .pinned], laidTests := true, laidLooks := .later }
def CoilsAgeUptoCardSaid : Prop := Claim7.holds Tryd.pinned (.plain (OpenSpec.upto coilsAgeSpec)) coilsAgeUptoCard

/-- THE SECOND FORM's CARD OF 'coilkeep.PicksAreOldest'. -/
def picksAreOldestUptoCard : Claim7 := { stood := { row := picksAreOldestUptoRow, standIns := [], harness := (true, "f08ee4927ac8f35dcbb5b634048358a95dbfc710a16ec4ef53eaa207dacdabf1"), looks := false }, kinds := [], alts := [], laidByText := true, laidKinds := [.data, .pinned], laidTests := true, laidLooks := .later }
def PicksAreOldestUptoCardSaid : Prop := Claim7.holds Tryd.pinned (.plain (OpenSpec.upto picksAreOldestSpec)) picksAreOldestUptoCard

/-- THE SECOND FORM's CARD OF 'coilkeep.CoilsKeepOrder'. -/
def coilsKeepOrderUptoCard : Claim7 := { stood := { row := coilsKeepOrderUptoRow, standIns := [], harness := (true, "f08ee4927ac8f35dcbb5b634048358a95dbfc710a16ec4ef53eaa207dacdabf1"), looks := false }, kinds := [], alts := [], laidByText := true, laidKinds := [.data, .pinned], laidTests := true, laidLooks := .later }
def CoilsKeepOrderUptoCardSaid : Prop := Claim7.holds Tryd.pinned (.plain (OpenSpec.upto coilsKeepOrderSpec)) coilsKeepOrderUptoCard

/-- THE SECOND FORM's CARD OF 'coilkeep.StockStays'. -/
def stockStaysUptoCard : Claim7 := { stood := { row := stockStaysUptoRow, standIns := [], harness := (true, "f08ee4927ac8f35dcbb5b634048358a95dbfc710a16ec4ef53eaa207dacdabf1"), looks := false }, kinds := [], alts := [], laidByText := true, laidKinds := [.data, .pinned], laidTests := true, laidLooks := .later }
def StockStaysUptoCardSaid : Prop := Claim7.holds Tryd.pinned (.plain (OpenSpec.upto stockStaysSpec)) stockStaysUptoCard
end Rows
end Go.Proofs.YtidfhgpjpieajaaDoor
