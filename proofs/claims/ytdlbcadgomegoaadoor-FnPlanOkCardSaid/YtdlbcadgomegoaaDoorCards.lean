/-
  DERIVED. GIVEN WITH THE SEED: THE CARDS: each row of YtdlbcadgomegoaaDoorRows.lean that lists a variable, with what it lists TIED to the program's text (the seventh form; the later family's looks); each row that meets fmt, with fmt's text TOLD by the authors' own Lean function (tested against real Go, not proved from fmt's source: count such statements apart). THE CARD IS WHAT COUNTS. Prove the row's statement (the work); the ties are given (YtdlbcadgomegoaaDoorTie.lean); close each card by the builder's one call (the guide's Derived/Test/ToyasCard.lean, 'card_holds'). Laid BY PROGRAM, IN A SANDBOX (cutbox-door.mjs). By AI agents, Wed Nov 11 2026. No macro, syntax, notation, axiom, sorry.
-/
import Derived.Test.YtdlbcadgomegoaaDoorRows
import GoSem.ClaimSeven
namespace Go.Proofs.YtdlbcadgomegoaaDoor
namespace Rows

/-- THE TIED CARD OF 'laws.FnItemsValid'. -/
def fnItemsValidCard : Claim7 := { stood := { row := fnItemsValidRow, standIns := [], harness := (true, "431d983ad1c4a42bf74b58a455178ebbf6f3774b1273fa1311ee86e2b6bbc9d5"), looks := false }, kinds := [], alts := [], laidByText := true, laidKinds := [.data, .data, .data], laidTests := true, laidLooks := .later }
def FnItemsValidCardSaid : Prop := Claim7.holds Tryd.pinned (.plain (OpenSpec.ofChange fnItemsValidSpec)) fnItemsValidCard

/-- THE TIED CARD OF 'laws.FnPlanOk'. -/
def fnPlanOkCard : Claim7 := { stood := { row := fnPlanOkRow, standIns := [], harness := (true, "431d983ad1c4a42bf74b58a455178ebbf6f3774b1273fa1311ee86e2b6bbc9d5"), looks := false }, kinds := [], alts := [], laidByText := true, laidKinds := [.data, .data, .data], laidTests := true, laidLooks := .later }
def FnPlanOkCardSaid : Prop := Claim7.holds Tryd.pinned (.plain (OpenSpec.ofChange fnPlanOkSpec)) fnPlanOkCard

/-- THE TIED CARD OF 'laws.FnPlanLeast'. -/
def fnPlanLeastCard : Claim7 := { stood := { row := fnPlanLeastRow, standIns := [], harness := (true, "431d983ad1c4a42bf74b58a455178ebbf6f3774b1273fa1311ee86e2b6bbc9d5"), looks := false }, kinds := [], alts := [], laidByText := true, laidKinds := [.data, .data, .data], laidTests := true, laidLooks := .later }
def FnPlanLeastCardSaid : Prop := Claim7.holds Tryd.pinned (.plain (OpenSpec.ofChange fnPlanLeastSpec)) fnPlanLeastCard

/-- THE TIED CARD OF 'laws.FnPlanCost'. -/
def fnPlanCostCard : Claim7 := { stood := { row := fnPlanCostRow, standIns := [], harness := (true, "431d983ad1c4a42bf74b58a455178ebbf6f3774b1273fa1311ee86e2b6bbc9d5"), looks := false }, kinds := [], alts := [], laidByText := true, laidKinds := [.data, .data, .data], laidTests := true, laidLooks := .later }
def FnPlanCostCardSaid : Prop := Claim7.holds Tryd.pinned (.plain (OpenSpec.ofChange fnPlanCostSpec)) fnPlanCostCard

/-- THE TIED CARD OF 'laws.FnTasksValid'. -/
def fnTasksValidCard : Claim7 := { stood := { row := fnTasksValidRow, standIns := [], harness := (true, "431d983ad1c4a42bf74b58a455178ebbf6f3774b1273fa1311ee86e2b6bbc9d5"), looks := false }, kinds := [], alts := [], laidByText := true, laidKinds := [.data, .data, .data], laidTests := true, laidLooks := .later }
def FnTasksValidCardSaid : Prop := Claim7.holds Tryd.pinned (.plain (OpenSpec.ofChange fnTasksValidSpec)) fnTasksValidCard

/-- THE TIED CARD OF 'laws.FnTasksEnd'. -/
def fnTasksEndCard : Claim7 := { stood := { row := fnTasksEndRow, standIns := [], harness := (true, "431d983ad1c4a42bf74b58a455178ebbf6f3774b1273fa1311ee86e2b6bbc9d5"), looks := false }, kinds := [], alts := [], laidByText := true, laidKinds := [.data, .data, .data], laidTests := true, laidLooks := .later }
def FnTasksEndCardSaid : Prop := Claim7.holds Tryd.pinned (.plain (OpenSpec.ofChange fnTasksEndSpec)) fnTasksEndCard

/-- THE SECOND FORM's CARD OF 'laws.FnItemsValid'. -/
def fnItemsValidUptoCard : Claim7 := { stood := { row := fnItemsValidUptoRow, standIns := [], harness := (true, "431d983ad1c4a42bf74b58a455178ebbf6f3774b1273fa1311ee86e2b6bbc9d5"), looks := false }, kinds := [], alts := [], laidByText := true, laidKinds := [.data, .data, .data], laidTests := true, laidLooks := .later }
def FnItemsValidUptoCardSaid : Prop := Claim7.holds Tryd.pinned (.plain (OpenSpec.upto fnItemsValidSpec)) fnItemsValidUptoCard

/-- THE SECOND FORM's CARD OF 'laws.FnPlanOk'. -/
def fnPlanOkUptoCard : Claim7 := { stood := { row := fnPlanOkUptoRow, standIns := [], harness := (true, "431d983ad1c4a42bf74b58a455178ebbf6f3774b1273fa1311ee86e2b6bbc9d5"), looks := false }, kinds := [], alts := [], laidByText := true, laidKinds := [.data, .data, .data], laidTests := true, laidLooks := .later }
def FnPlanOkUptoCardSaid : Prop := Claim7.holds Tryd.pinned (.plain (OpenSpec.upto fnPlanOkSpec)) fnPlanOkUptoCard

/-- THE SECOND FORM's CARD OF 'laws.FnPlanLeast'. -/
def fnPlanLeastUptoCard : Claim7 := { stood := { row := fnPlanLeastUptoRow, standIns := [], harness := (true, "431d983ad1c4a42bf74b58a455178ebbf6f3774b1273fa1311ee86e2b6bbc9d5"), looks := false }, kinds := [], alts := [], laidByText := true, laidKinds := [.data, .data, .data], laidTests := true, laidLooks := .later }
def FnPlanLeastUptoCardSaid : Prop := Claim7.holds Tryd.pinned (.plain (OpenSpec.upto fnPlanLeastSpec)) fnPlanLeastUptoCard

/-- THE SECOND FORM's CARD OF 'laws.FnPlanCost'. -/
def fnPlanCostUptoCard : Claim7 := { stood := { row := fnPlanCostUptoRow, standIns := [], harness := (true, "431d983ad1c4a42bf74b58a455178ebbf6f3774b1273fa1311ee86e2b6bbc9d5"), looks := false }, kinds := [], alts := [], laidByText := true, laidKinds := [.data, .data, .data], laidTests := true, laidLooks := .later }
def FnPlanCostUptoCardSaid : Prop := Claim7.holds Tryd.pinned (.plain (OpenSpec.upto fnPlanCostSpec)) fnPlanCostUptoCard

/-- THE SECOND FORM's CARD OF 'laws.FnTasksValid'. -/
def fnTasksValidUptoCard : Claim7 := { stood := { row := fnTasksValidUptoRow, standIns := [], harness := (true, "431d983ad1c4a42bf74b58a455178ebbf6f3774b1273fa1311ee86e2b6bbc9d5"), looks := false }, kinds := [], alts := [], laidByText := true, laidKinds := [.data, .data, .data], laidTests := true, laidLooks := .later }
def FnTasksValidUptoCardSaid : Prop := Claim7.holds Tryd.pinned (.plain (OpenSpec.upto fnTasksValidSpec)) fnTasksValidUptoCard

/-- THE SECOND FORM's CARD OF 'laws.FnTasksEnd'. -/
def fnTasksEndUptoCard : Claim7 := { stood := { row := fnTasksEndUptoRow, standIns := [], harness := (true, "431d983ad1c4a42bf74b58a455178ebbf6f3774b1273fa1311ee86e2b6bbc9d5"), looks := false }, kinds := [], alts := [], laidByText := true, laidKinds := [.data, .data, .data], laidTests := true, laidLooks := .later }
def FnTasksEndUptoCardSaid : Prop := Claim7.holds Tryd.pinned (.plain (OpenSpec.upto fnTasksEndSpec)) fnTasksEndUptoCard
end Rows
end Go.Proofs.YtdlbcadgomegoaaDoor
