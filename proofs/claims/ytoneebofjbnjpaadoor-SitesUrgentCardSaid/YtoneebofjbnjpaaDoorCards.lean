/-
  DERIVED. GIVEN WITH THE SEED: THE CARDS: each row of YtoneebofjbnjpaaDoorRows.lean that lists a variable, with what it lists TIED to the program's text (the seventh form; the later family's looks); each row that meets fmt, with fmt's text TOLD by the authors' own Lean function (tested against real Go, not proved from fmt's source: count such statements apart). THE CARD IS WHAT COUNTS. Prove the row's statement (the work); the ties are given (YtoneebofjbnjpaaDoorTie.lean); close each card by the builder's one call (the guide's Derived/Test/ToyasCard.lean, 'card_holds'). Laid BY PROGRAM, IN A SANDBOX (cutbox-door.mjs). By AI agents, Wed Nov 11 2026. No macro, syntax, notation, axiom, sorry.
-/
import Derived.Test.YtoneebofjbnjpaaDoorRows
import GoSem.ClaimSeven
namespace Go.Proofs.YtoneebofjbnjpaaDoor
namespace Rows

/-- THE TIED CARD OF 'coillaw.SitesUrgent'. -/
def sitesUrgentCard : Claim7 := { stood := { row := sitesUrgentRow, standIns := [], harness := (true, "a51428aac0bc17465363853cd87442dda85994e5da0864d1d858e2321c1c8cda"), looks := false }, kinds := [], alts := [], laidByText := true, laidKinds := [.data, .pinned], laidTests := true, laidLooks := .later }
def SitesUrgentCardSaid : Prop := Claim7.holds Tryd.pinned (.plain (OpenSpec.ofChange sitesUrgentSpec)) sitesUrgentCard

/-- THE TIED CARD OF 'coillaw.RoutesDriven'. -/
def routesDrivenCard : Claim7 := { stood := { row := routesDrivenRow, standIns := [], harness := (true, "a51428aac0bc17465363853cd87442dda85994e5da0864d1d858e2321c1c8cda"), looks := false }, kinds := [], alts := [], laidByText := true, laidKinds := [.data, .data, .data, .data, .pinned], laidTests := true, laidLooks := .later }
def RoutesDrivenCardSaid : Prop := Claim7.holds Tryd.pinned (.plain (OpenSpec.ofChange routesDrivenSpec)) routesDrivenCard

/-- THE TIED CARD OF 'coillaw.RoutesBest'. -/
def routesBestCard : Claim7 := { stood := { row := routesBestRow, standIns := [], harness := (true, "a51428aac0bc17465363853cd87442dda85994e5da0864d1d858e2321c1c8cda"), looks := false }, kinds := [], alts := [], laidByText := true, laidKinds := [.data, .pinned], laidTests := true, laidLooks := .later }
def RoutesBestCardSaid : Prop := Claim7.holds Tryd.pinned (.plain (OpenSpec.ofChange routesBestSpec)) routesBestCard

/-- THE TIED CARD OF 'coillaw.RoutesImproved'. -/
def routesImprovedCard : Claim7 := { stood := { row := routesImprovedRow, standIns := [], harness := (true, "a51428aac0bc17465363853cd87442dda85994e5da0864d1d858e2321c1c8cda"), looks := false }, kinds := [], alts := [], laidByText := true, laidKinds := [.data, .pinned], laidTests := true, laidLooks := .later }
def RoutesImprovedCardSaid : Prop := Claim7.holds Tryd.pinned (.plain (OpenSpec.ofChange routesImprovedSpec)) routesImprovedCard

/-- THE TIED CARD OF 'coilkeep.RoutesAreDriven'. -/
def routesAreDrivenCard : Claim7 := { stood := { row := routesAreDrivenRow, standIns := [], harness := (true, "a51428aac0bc17465363853cd87442dda85994e5da0864d1d858e2321c1c8cda"), looks := false }, kinds := [], alts := [], laidByText := true, laidKinds := [.data, .pinned], laidTests := true, laidLooks := .later }
def RoutesAreDrivenCardSaid : Prop := Claim7.holds Tryd.pinned (.plain (OpenSpec.ofChange routesAreDrivenSpec)) routesAreDrivenCard

/-- THE SECOND FORM's CARD OF 'coillaw.SitesUrgent'. -/
def sitesUrgentUptoCard : Claim7 := { stood := { row := sitesUrgentUptoRow, standIns := [], harness := (true, "a51428aac0bc17465363853cd87442dda85994e5da0864d1d858e2321c1c8cda"), looks := false }, kinds := [], alts := [], laidByText := true, laidKinds := [.data, .pinned], laidTests := true, laidLooks := .later }
def SitesUrgentUptoCardSaid : Prop := Claim7.holds Tryd.pinned (.plain (OpenSpec.upto sitesUrgentSpec)) sitesUrgentUptoCard

/-- THE SECOND FORM's CARD OF 'coillaw.RoutesDriven'. -/
def routesDrivenUptoCard : Claim7 := { stood := { row := routesDrivenUptoRow, standIns := [], harness := (true, "a51428aac0bc17465363853cd87442dda85994e5da0864d1d858e2321c1c8cda"), looks := false }, kinds := [], alts := [], laidByText := true, laidKinds := [.data, .data, .data, .data, .pinned], laidTests := true, laidLooks := .later }
def RoutesDrivenUptoCardSaid : Prop := Claim7.holds Tryd.pinned (.plain (OpenSpec.upto routesDrivenSpec)) routesDrivenUptoCard

/-- THE SECOND FORM's CARD OF 'coillaw.RoutesBest'. -/
def routesBestUptoCard : Claim7 := { stood := { row := routesBestUptoRow, standIns := [], harness := (true, "a51428aac0bc17465363853cd87442dda85994e5da0864d1d858e2321c1c8cda"), looks := false }, kinds := [], alts := [], laidByText := true, laidKinds := [.data, .pinned], laidTests := true, laidLooks := .later }
def RoutesBestUptoCardSaid : Prop := Claim7.holds Tryd.pinned (.plain (OpenSpec.upto routesBestSpec)) routesBestUptoCard

/-- THE SECOND FORM's CARD OF 'coillaw.RoutesImproved'. -/
def routesImprovedUptoCard : Claim7 := { stood := { row := routesImprovedUptoRow, standIns := [], harness := (true, "a51428aac0bc17465363853cd87442dda85994e5da0864d1d858e2321c1c8cda"), looks := false }, kinds := [], alts := [], laidByText := true, laidKinds := [.data, .pinned], laidTests := true, laidLooks := .later }
def RoutesImprovedUptoCardSaid : Prop := Claim7.holds Tryd.pinned (.plain (OpenSpec.upto routesImprovedSpec)) routesImprovedUptoCard

/-- THE SECOND FORM's CARD OF 'coilkeep.RoutesAreDriven'. -/
def routesAreDrivenUptoCard : Claim7 := { stood := { row := routesAreDrivenUptoRow, standIns := [], harness := (true, "a51428aac0bc17465363853cd87442dda85994e5da0864d1d858e2321c1c8cda"), looks := false }, kinds := [], alts := [], laidByText := true, laidKinds := [.data, .pinned], laidTests := true, laidLooks := .later }
def RoutesAreDrivenUptoCardSaid : Prop := Claim7.holds Tryd.pinned (.plain (OpenSpec.upto routesAreDrivenSpec)) routesAreDrivenUptoCard
end Rows
end Go.Proofs.YtoneebofjbnjpaaDoor
