/-
  DERIVED. GIVEN WITH THE SEED: THE CARDS: each row of YtgagfaajilbmmaaDoorRows.lean that lists a variable, with what it lists TIED to the program's text (the seventh form; the later family's looks); each row that meets fmt, with fmt's text TOLD by the authors' own Lean function (tested against real Go, not proved from fmt's source: count such statements apart). THE CARD IS WHAT COUNTS. Prove the row's statement (the work); the ties are given (YtgagfaajilbmmaaDoorTie.lean); close each card by the builder's one call (the guide's Derived/Test/ToyasCard.lean, 'card_holds'). Laid BY PROGRAM, IN A SANDBOX (cutbox-door.mjs). By AI agents, Wed Nov 11 2026. No macro, syntax, notation, axiom, sorry.
-/
import Derived.Test.YtgagfaajilbmmaaDoorRows
import GoSem.ClaimSeven
namespace Go.Proofs.YtgagfaajilbmmaaDoor
namespace Rows

/-- THE TIED CARD OF 'laws.FnPlanCost'. -/
def fnPlanCostCard : Claim7 := { stood := { row := fnPlanCostRow, standIns := [], harness := (true, "23267302957c603eeea2b4b938823f899e732e687ab63bd71a1faefa3d3c0849"), looks := false }, kinds := [], alts := [], laidByText := true, laidKinds := [.data, .data, .data], laidTests := true, laidLooks := .later }
def FnPlanCostCardSaid : Prop := Claim7.holds Tryd.pinned (.plain (OpenSpec.ofChange fnPlanCostSpec)) fnPlanCostCard

/-- THE TIED CARD OF 'laws.FnUnitCost'. -/
def fnUnitCostCard : Claim7 := { stood := { row := fnUnitCostRow, standIns := [], harness := (true, "23267302957c603eeea2b4b938823f899e732e687ab63bd71a1faefa3d3c0849"), looks := false }, kinds := [], alts := [], laidByText := true, laidKinds := [.data, .data, .data], laidTests := true, laidLooks := .later }
def FnUnitCostCardSaid : Prop := Claim7.holds Tryd.pinned (.plain (OpenSpec.ofChange fnUnitCostSpec)) fnUnitCostCard

/-- THE TIED CARD OF 'laws.FnStartsOk'. -/
def fnStartsOkCard : Claim7 := { stood := { row := fnStartsOkRow, standIns := [], harness := (true, "23267302957c603eeea2b4b938823f899e732e687ab63bd71a1faefa3d3c0849"), looks := false }, kinds := [], alts := [], laidByText := true, laidKinds := [.data, .data, .data], laidTests := true, laidLooks := .later }
def FnStartsOkCardSaid : Prop := Claim7.holds Tryd.pinned (.plain (OpenSpec.ofChange fnStartsOkSpec)) fnStartsOkCard

/-- THE TIED CARD OF 'laws.FnStartsLate'. -/
def fnStartsLateCard : Claim7 := { stood := { row := fnStartsLateRow, standIns := [], harness := (true, "23267302957c603eeea2b4b938823f899e732e687ab63bd71a1faefa3d3c0849"), looks := false }, kinds := [], alts := [], laidByText := true, laidKinds := [.data, .data, .data], laidTests := true, laidLooks := .later }
def FnStartsLateCardSaid : Prop := Claim7.holds Tryd.pinned (.plain (OpenSpec.ofChange fnStartsLateSpec)) fnStartsLateCard

/-- THE TIED CARD OF 'laws.FnLongestWay'. -/
def fnLongestWayCard : Claim7 := { stood := { row := fnLongestWayRow, standIns := [], harness := (true, "23267302957c603eeea2b4b938823f899e732e687ab63bd71a1faefa3d3c0849"), looks := false }, kinds := [], alts := [], laidByText := true, laidKinds := [.data, .data, .data], laidTests := true, laidLooks := .later }
def FnLongestWayCardSaid : Prop := Claim7.holds Tryd.pinned (.plain (OpenSpec.ofChange fnLongestWaySpec)) fnLongestWayCard

/-- THE TIED CARD OF 'laws.FnPaysOk'. -/
def fnPaysOkCard : Claim7 := { stood := { row := fnPaysOkRow, standIns := [], harness := (true, "23267302957c603eeea2b4b938823f899e732e687ab63bd71a1faefa3d3c0849"), looks := false }, kinds := [], alts := [], laidByText := true, laidKinds := [.data, .data, .data], laidTests := true, laidLooks := .later }
def FnPaysOkCardSaid : Prop := Claim7.holds Tryd.pinned (.plain (OpenSpec.ofChange fnPaysOkSpec)) fnPaysOkCard

/-- THE TIED CARD OF 'laws.FnGroupsMost'. -/
def fnGroupsMostCard : Claim7 := { stood := { row := fnGroupsMostRow, standIns := [], harness := (true, "23267302957c603eeea2b4b938823f899e732e687ab63bd71a1faefa3d3c0849"), looks := false }, kinds := [], alts := [], laidByText := true, laidKinds := [.data, .data, .data], laidTests := true, laidLooks := .later }
def FnGroupsMostCardSaid : Prop := Claim7.holds Tryd.pinned (.plain (OpenSpec.ofChange fnGroupsMostSpec)) fnGroupsMostCard

/-- THE TIED CARD OF 'laws.FnSettleLeast'. -/
def fnSettleLeastCard : Claim7 := { stood := { row := fnSettleLeastRow, standIns := [], harness := (true, "23267302957c603eeea2b4b938823f899e732e687ab63bd71a1faefa3d3c0849"), looks := false }, kinds := [], alts := [], laidByText := true, laidKinds := [.data, .data, .data], laidTests := true, laidLooks := .later }
def FnSettleLeastCardSaid : Prop := Claim7.holds Tryd.pinned (.plain (OpenSpec.ofChange fnSettleLeastSpec)) fnSettleLeastCard

/-- THE TIED CARD OF 'laws.FnSettleBest'. -/
def fnSettleBestCard : Claim7 := { stood := { row := fnSettleBestRow, standIns := [], harness := (true, "23267302957c603eeea2b4b938823f899e732e687ab63bd71a1faefa3d3c0849"), looks := false }, kinds := [], alts := [], laidByText := true, laidKinds := [.data, .data, .data], laidTests := true, laidLooks := .later }
def FnSettleBestCardSaid : Prop := Claim7.holds Tryd.pinned (.plain (OpenSpec.ofChange fnSettleBestSpec)) fnSettleBestCard

/-- THE SECOND FORM's CARD OF 'laws.FnPlanCost'. -/
def fnPlanCostUptoCard : Claim7 := { stood := { row := fnPlanCostUptoRow, standIns := [], harness := (true, "23267302957c603eeea2b4b938823f899e732e687ab63bd71a1faefa3d3c0849"), looks := false }, kinds := [], alts := [], laidByText := true, laidKinds := [.data, .data, .data], laidTests := true, laidLooks := .later }
def FnPlanCostUptoCardSaid : Prop := Claim7.holds Tryd.pinned (.plain (OpenSpec.upto fnPlanCostSpec)) fnPlanCostUptoCard

/-- THE SECOND FORM's CARD OF 'laws.FnUnitCost'. -/
def fnUnitCostUptoCard : Claim7 := { stood := { row := fnUnitCostUptoRow, standIns := [], harness := (true, "23267302957c603eeea2b4b938823f899e732e687ab63bd71a1faefa3d3c0849"), looks := false }, kinds := [], alts := [], laidByText := true, laidKinds := [.data, .data, .data], laidTests := true, laidLooks := .later }
def FnUnitCostUptoCardSaid : Prop := Claim7.holds Tryd.pinned (.plain (OpenSpec.upto fnUnitCostSpec)) fnUnitCostUptoCard

/-- THE SECOND FORM's CARD OF 'laws.FnStartsOk'. -/
def fnStartsOkUptoCard : Claim7 := { stood := { row := fnStartsOkUptoRow, standIns := [], harness := (true, "23267302957c603eeea2b4b938823f899e732e687ab63bd71a1faefa3d3c0849"), looks := false }, kinds := [], alts := [], laidByText := true, laidKinds := [.data, .data, .data], laidTests := true, laidLooks := .later }
def FnStartsOkUptoCardSaid : Prop := Claim7.holds Tryd.pinned (.plain (OpenSpec.upto fnStartsOkSpec)) fnStartsOkUptoCard

/-- THE SECOND FORM's CARD OF 'laws.FnStartsLate'. -/
def fnStartsLateUptoCard : Claim7 := { stood := { row := fnStartsLateUptoRow, standIns := [], harness := (true, "23267302957c603eeea2b4b938823f899e732e687ab63bd71a1faefa3d3c0849"), looks := false }, kinds := [], alts := [], laidByText := true, laidKinds := [.data, .data, .data], laidTests := true, laidLooks := .later }
def FnStartsLateUptoCardSaid : Prop := Claim7.holds Tryd.pinned (.plain (OpenSpec.upto fnStartsLateSpec)) fnStartsLateUptoCard

/-- THE SECOND FORM's CARD OF 'laws.FnLongestWay'. -/
def fnLongestWayUptoCard : Claim7 := { stood := { row := fnLongestWayUptoRow, standIns := [], harness := (true, "23267302957c603eeea2b4b938823f899e732e687ab63bd71a1faefa3d3c0849"), looks := false }, kinds := [], alts := [], laidByText := true, laidKinds := [.data, .data, .data], laidTests := true, laidLooks := .later }
def FnLongestWayUptoCardSaid : Prop := Claim7.holds Tryd.pinned (.plain (OpenSpec.upto fnLongestWaySpec)) fnLongestWayUptoCard

/-- THE SECOND FORM's CARD OF 'laws.FnPaysOk'. -/
def fnPaysOkUptoCard : Claim7 := { stood := { row := fnPaysOkUptoRow, standIns := [], harness := (true, "23267302957c603eeea2b4b938823f899e732e687ab63bd71a1faefa3d3c0849"), looks := false }, kinds := [], alts := [], laidByText := true, laidKinds := [.data, .data, .data], laidTests := true, laidLooks := .later }
def FnPaysOkUptoCardSaid : Prop := Claim7.holds Tryd.pinned (.plain (OpenSpec.upto fnPaysOkSpec)) fnPaysOkUptoCard

/-- THE SECOND FORM's CARD OF 'laws.FnGroupsMost'. -/
def fnGroupsMostUptoCard : Claim7 := { stood := { row := fnGroupsMostUptoRow, standIns := [], harness := (true, "23267302957c603eeea2b4b938823f899e732e687ab63bd71a1faefa3d3c0849"), looks := false }, kinds := [], alts := [], laidByText := true, laidKinds := [.data, .data, .data], laidTests := true, laidLooks := .later }
def FnGroupsMostUptoCardSaid : Prop := Claim7.holds Tryd.pinned (.plain (OpenSpec.upto fnGroupsMostSpec)) fnGroupsMostUptoCard

/-- THE SECOND FORM's CARD OF 'laws.FnSettleLeast'. -/
def fnSettleLeastUptoCard : Claim7 := { stood := { row := fnSettleLeastUptoRow, standIns := [], harness := (true, "23267302957c603eeea2b4b938823f899e732e687ab63bd71a1faefa3d3c0849"), looks := false }, kinds := [], alts := [], laidByText := true, laidKinds := [.data, .data, .data], laidTests := true, laidLooks := .later }
def FnSettleLeastUptoCardSaid : Prop := Claim7.holds Tryd.pinned (.plain (OpenSpec.upto fnSettleLeastSpec)) fnSettleLeastUptoCard

/-- THE SECOND FORM's CARD OF 'laws.FnSettleBest'. -/
def fnSettleBestUptoCard : Claim7 := { stood := { row := fnSettleBestUptoRow, standIns := [], harness := (true, "23267302957c603eeea2b4b938823f899e732e687ab63bd71a1faefa3d3c0849"), looks := false }, kinds := [], alts := [], laidByText := true, laidKinds := [.data, .data, .data], laidTests := true, laidLooks := .later }
def FnSettleBestUptoCardSaid : Prop := Claim7.holds Tryd.pinned (.plain (OpenSpec.upto fnSettleBestSpec)) fnSettleBestUptoCard
end Rows
end Go.Proofs.YtgagfaajilbmmaaDoor
