/-
  DERIVED. GIVEN WITH THE SEED: THE CARDS: each row of YteloapholoechaaDoorRows.lean that lists a variable, with what it lists TIED to the program's text (the seventh form; the later family's looks); each row that meets fmt, with fmt's text TOLD by the authors' own Lean function (tested against real Go, not proved from fmt's source: count such statements apart). THE CARD IS WHAT COUNTS. Prove the row's statement (the work); the ties are given (YteloapholoechaaDoorTie.lean); close each card by the builder's one call (the guide's Derived/Test/ToyasCard.lean, 'card_holds'). Laid BY PROGRAM, IN A SANDBOX (cutbox-door.mjs). By AI agents, Wed Nov 11 2026. No macro, syntax, notation, axiom, sorry.
-/
import Derived.Test.YteloapholoechaaDoorRows
import GoSem.ClaimSeven
namespace Go.Proofs.YteloapholoechaaDoor
namespace Rows

/-- THE TIED CARD OF 'laws.FnFlowEnd'. -/
def fnFlowEndCard : Claim7 := { stood := { row := fnFlowEndRow, standIns := [], harness := (true, "820ebaf077f0e303fd70e165d6e6b5a6224117fa7708b956a42fe90b367f42b2"), looks := false }, kinds := [], alts := [], laidByText := true, laidKinds := [.data, .data, .data], laidTests := true, laidLooks := .later }
def FnFlowEndCardSaid : Prop := Claim7.holds Tryd.pinned (.plain (OpenSpec.ofChange fnFlowEndSpec)) fnFlowEndCard

/-- THE TIED CARD OF 'laws.FnFlowBest'. -/
def fnFlowBestCard : Claim7 := { stood := { row := fnFlowBestRow, standIns := [], harness := (true, "820ebaf077f0e303fd70e165d6e6b5a6224117fa7708b956a42fe90b367f42b2"), looks := false }, kinds := [], alts := [], laidByText := true, laidKinds := [.data, .data, .data], laidTests := true, laidLooks := .later }
def FnFlowBestCardSaid : Prop := Claim7.holds Tryd.pinned (.plain (OpenSpec.ofChange fnFlowBestSpec)) fnFlowBestCard

/-- THE TIED CARD OF 'laws.FnFlowLeast'. -/
def fnFlowLeastCard : Claim7 := { stood := { row := fnFlowLeastRow, standIns := [], harness := (true, "820ebaf077f0e303fd70e165d6e6b5a6224117fa7708b956a42fe90b367f42b2"), looks := false }, kinds := [], alts := [], laidByText := true, laidKinds := [.data, .data, .data], laidTests := true, laidLooks := .later }
def FnFlowLeastCardSaid : Prop := Claim7.holds Tryd.pinned (.plain (OpenSpec.ofChange fnFlowLeastSpec)) fnFlowLeastCard

/-- THE TIED CARD OF 'laws.FnBurnEnd'. -/
def fnBurnEndCard : Claim7 := { stood := { row := fnBurnEndRow, standIns := [], harness := (true, "820ebaf077f0e303fd70e165d6e6b5a6224117fa7708b956a42fe90b367f42b2"), looks := false }, kinds := [], alts := [], laidByText := true, laidKinds := [.data, .data, .data], laidTests := true, laidLooks := .later }
def FnBurnEndCardSaid : Prop := Claim7.holds Tryd.pinned (.plain (OpenSpec.ofChange fnBurnEndSpec)) fnBurnEndCard

/-- THE TIED CARD OF 'laws.FnBurnList'. -/
def fnBurnListCard : Claim7 := { stood := { row := fnBurnListRow, standIns := [], harness := (true, "820ebaf077f0e303fd70e165d6e6b5a6224117fa7708b956a42fe90b367f42b2"), looks := false }, kinds := [], alts := [], laidByText := true, laidKinds := [.data, .data, .data], laidTests := true, laidLooks := .later }
def FnBurnListCardSaid : Prop := Claim7.holds Tryd.pinned (.plain (OpenSpec.ofChange fnBurnListSpec)) fnBurnListCard

/-- THE TIED CARD OF 'laws.FnBurnLeast'. -/
def fnBurnLeastCard : Claim7 := { stood := { row := fnBurnLeastRow, standIns := [], harness := (true, "820ebaf077f0e303fd70e165d6e6b5a6224117fa7708b956a42fe90b367f42b2"), looks := false }, kinds := [], alts := [], laidByText := true, laidKinds := [.data, .data, .data], laidTests := true, laidLooks := .later }
def FnBurnLeastCardSaid : Prop := Claim7.holds Tryd.pinned (.plain (OpenSpec.ofChange fnBurnLeastSpec)) fnBurnLeastCard

/-- THE TIED CARD OF 'laws.FnStartsOk'. -/
def fnStartsOkCard : Claim7 := { stood := { row := fnStartsOkRow, standIns := [], harness := (true, "820ebaf077f0e303fd70e165d6e6b5a6224117fa7708b956a42fe90b367f42b2"), looks := false }, kinds := [], alts := [], laidByText := true, laidKinds := [.data, .data, .data], laidTests := true, laidLooks := .later }
def FnStartsOkCardSaid : Prop := Claim7.holds Tryd.pinned (.plain (OpenSpec.ofChange fnStartsOkSpec)) fnStartsOkCard

/-- THE TIED CARD OF 'laws.FnStartsEarly'. -/
def fnStartsEarlyCard : Claim7 := { stood := { row := fnStartsEarlyRow, standIns := [], harness := (true, "820ebaf077f0e303fd70e165d6e6b5a6224117fa7708b956a42fe90b367f42b2"), looks := false }, kinds := [], alts := [], laidByText := true, laidKinds := [.data, .data, .data], laidTests := true, laidLooks := .later }
def FnStartsEarlyCardSaid : Prop := Claim7.holds Tryd.pinned (.plain (OpenSpec.ofChange fnStartsEarlySpec)) fnStartsEarlyCard

/-- THE TIED CARD OF 'laws.FnTasksEnd'. -/
def fnTasksEndCard : Claim7 := { stood := { row := fnTasksEndRow, standIns := [], harness := (true, "820ebaf077f0e303fd70e165d6e6b5a6224117fa7708b956a42fe90b367f42b2"), looks := false }, kinds := [], alts := [], laidByText := true, laidKinds := [.data, .data, .data], laidTests := true, laidLooks := .later }
def FnTasksEndCardSaid : Prop := Claim7.holds Tryd.pinned (.plain (OpenSpec.ofChange fnTasksEndSpec)) fnTasksEndCard

/-- THE TIED CARD OF 'laws.FnStartsLate'. -/
def fnStartsLateCard : Claim7 := { stood := { row := fnStartsLateRow, standIns := [], harness := (true, "820ebaf077f0e303fd70e165d6e6b5a6224117fa7708b956a42fe90b367f42b2"), looks := false }, kinds := [], alts := [], laidByText := true, laidKinds := [.data, .data, .data], laidTests := true, laidLooks := .later }
def FnStartsLateCardSaid : Prop := Claim7.holds Tryd.pinned (.plain (OpenSpec.ofChange fnStartsLateSpec)) fnStartsLateCard

/-- THE TIED CARD OF 'laws.FnLongestWay'. -/
def fnLongestWayCard : Claim7 := { stood := { row := fnLongestWayRow, standIns := [], harness := (true, "820ebaf077f0e303fd70e165d6e6b5a6224117fa7708b956a42fe90b367f42b2"), looks := false }, kinds := [], alts := [], laidByText := true, laidKinds := [.data, .data, .data], laidTests := true, laidLooks := .later }
def FnLongestWayCardSaid : Prop := Claim7.holds Tryd.pinned (.plain (OpenSpec.ofChange fnLongestWaySpec)) fnLongestWayCard

/-- THE SECOND FORM's CARD OF 'laws.FnFlowEnd'. -/
def fnFlowEndUptoCard : Claim7 := { stood := { row := fnFlowEndUptoRow, standIns := [], harness := (true, "820ebaf077f0e303fd70e165d6e6b5a6224117fa7708b956a42fe90b367f42b2"), looks := false }, kinds := [], alts := [], laidByText := true, laidKinds := [.data, .data, .data], laidTests := true, laidLooks := .later }
def FnFlowEndUptoCardSaid : Prop := Claim7.holds Tryd.pinned (.plain (OpenSpec.upto fnFlowEndSpec)) fnFlowEndUptoCard

/-- THE SECOND FORM's CARD OF 'laws.FnFlowBest'. -/
def fnFlowBestUptoCard : Claim7 := { stood := { row := fnFlowBestUptoRow, standIns := [], harness := (true, "820ebaf077f0e303fd70e165d6e6b5a6224117fa7708b956a42fe90b367f42b2"), looks := false }, kinds := [], alts := [], laidByText := true, laidKinds := [.data, .data, .data], laidTests := true, laidLooks := .later }
def FnFlowBestUptoCardSaid : Prop := Claim7.holds Tryd.pinned (.plain (OpenSpec.upto fnFlowBestSpec)) fnFlowBestUptoCard

/-- THE SECOND FORM's CARD OF 'laws.FnFlowLeast'. -/
def fnFlowLeastUptoCard : Claim7 := { stood := { row := fnFlowLeastUptoRow, standIns := [], harness := (true, "820ebaf077f0e303fd70e165d6e6b5a6224117fa7708b956a42fe90b367f42b2"), looks := false }, kinds := [], alts := [], laidByText := true, laidKinds := [.data, .data, .data], laidTests := true, laidLooks := .later }
def FnFlowLeastUptoCardSaid : Prop := Claim7.holds Tryd.pinned (.plain (OpenSpec.upto fnFlowLeastSpec)) fnFlowLeastUptoCard

/-- THE SECOND FORM's CARD OF 'laws.FnBurnEnd'. -/
def fnBurnEndUptoCard : Claim7 := { stood := { row := fnBurnEndUptoRow, standIns := [], harness := (true, "820ebaf077f0e303fd70e165d6e6b5a6224117fa7708b956a42fe90b367f42b2"), looks := false }, kinds := [], alts := [], laidByText := true, laidKinds := [.data, .data, .data], laidTests := true, laidLooks := .later }
def FnBurnEndUptoCardSaid : Prop := Claim7.holds Tryd.pinned (.plain (OpenSpec.upto fnBurnEndSpec)) fnBurnEndUptoCard

/-- THE SECOND FORM's CARD OF 'laws.FnBurnList'. -/
def fnBurnListUptoCard : Claim7 := { stood := { row := fnBurnListUptoRow, standIns := [], harness := (true, "820ebaf077f0e303fd70e165d6e6b5a6224117fa7708b956a42fe90b367f42b2"), looks := false }, kinds := [], alts := [], laidByText := true, laidKinds := [.data, .data, .data], laidTests := true, laidLooks := .later }
def FnBurnListUptoCardSaid : Prop := Claim7.holds Tryd.pinned (.plain (OpenSpec.upto fnBurnListSpec)) fnBurnListUptoCard

/-- THE SECOND FORM's CARD OF 'laws.FnBurnLeast'. -/
def fnBurnLeastUptoCard : Claim7 := { stood := { row := fnBurnLeastUptoRow, standIns := [], harness := (true, "820ebaf077f0e303fd70e165d6e6b5a6224117fa7708b956a42fe90b367f42b2"), looks := false }, kinds := [], alts := [], laidByText := true, laidKinds := [.data, .data, .data], laidTests := true, laidLooks := .later }
def FnBurnLeastUptoCardSaid : Prop := Claim7.holds Tryd.pinned (.plain (OpenSpec.upto fnBurnLeastSpec)) fnBurnLeastUptoCard

/-- THE SECOND FORM's CARD OF 'laws.FnStartsOk'. -/
def fnStartsOkUptoCard : Claim7 := { stood := { row := fnStartsOkUptoRow, standIns := [], harness := (true, "820ebaf077f0e303fd70e165d6e6b5a6224117fa7708b956a42fe90b367f42b2"), looks := false }, kinds := [], alts := [], laidByText := true, laidKinds := [.data, .data, .data], laidTests := true, laidLooks := .later }
def FnStartsOkUptoCardSaid : Prop := Claim7.holds Tryd.pinned (.plain (OpenSpec.upto fnStartsOkSpec)) fnStartsOkUptoCard

/-- THE SECOND FORM's CARD OF 'laws.FnStartsEarly'. -/
def fnStartsEarlyUptoCard : Claim7 := { stood := { row := fnStartsEarlyUptoRow, standIns := [], harness := (true, "820ebaf077f0e303fd70e165d6e6b5a6224117fa7708b956a42fe90b367f42b2"), looks := false }, kinds := [], alts := [], laidByText := true, laidKinds := [.data, .data, .data], laidTests := true, laidLooks := .later }
def FnStartsEarlyUptoCardSaid : Prop := Claim7.holds Tryd.pinned (.plain (OpenSpec.upto fnStartsEarlySpec)) fnStartsEarlyUptoCard

/-- THE SECOND FORM's CARD OF 'laws.FnTasksEnd'. -/
def fnTasksEndUptoCard : Claim7 := { stood := { row := fnTasksEndUptoRow, standIns := [], harness := (true, "820ebaf077f0e303fd70e165d6e6b5a6224117fa7708b956a42fe90b367f42b2"), looks := false }, kinds := [], alts := [], laidByText := true, laidKinds := [.data, .data, .data], laidTests := true, laidLooks := .later }
def FnTasksEndUptoCardSaid : Prop := Claim7.holds Tryd.pinned (.plain (OpenSpec.upto fnTasksEndSpec)) fnTasksEndUptoCard

/-- THE SECOND FORM's CARD OF 'laws.FnStartsLate'. -/
def fnStartsLateUptoCard : Claim7 := { stood := { row := fnStartsLateUptoRow, standIns := [], harness := (true, "820ebaf077f0e303fd70e165d6e6b5a6224117fa7708b956a42fe90b367f42b2"), looks := false }, kinds := [], alts := [], laidByText := true, laidKinds := [.data, .data, .data], laidTests := true, laidLooks := .later }
def FnStartsLateUptoCardSaid : Prop := Claim7.holds Tryd.pinned (.plain (OpenSpec.upto fnStartsLateSpec)) fnStartsLateUptoCard

/-- THE SECOND FORM's CARD OF 'laws.FnLongestWay'. -/
def fnLongestWayUptoCard : Claim7 := { stood := { row := fnLongestWayUptoRow, standIns := [], harness := (true, "820ebaf077f0e303fd70e165d6e6b5a6224117fa7708b956a42fe90b367f42b2"), looks := false }, kinds := [], alts := [], laidByText := true, laidKinds := [.data, .data, .data], laidTests := true, laidLooks := .later }
def FnLongestWayUptoCardSaid : Prop := Claim7.holds Tryd.pinned (.plain (OpenSpec.upto fnLongestWaySpec)) fnLongestWayUptoCard
end Rows
end Go.Proofs.YteloapholoechaaDoor
