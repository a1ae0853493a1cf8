/-
  DERIVED. GIVEN WITH THE SEED: THE CARDS: each row of YtjegebnnlomcpaaDoorRows.lean that lists a variable, with what it lists TIED to the program's text (the seventh form; the later family's looks); each row that meets fmt, with fmt's text TOLD by the authors' own Lean function (tested against real Go, not proved from fmt's source: count such statements apart). THE CARD IS WHAT COUNTS. Prove the row's statement (the work); the ties are given (YtjegebnnlomcpaaDoorTie.lean); close each card by the builder's one call (the guide's Derived/Test/ToyasCard.lean, 'card_holds'). Laid BY PROGRAM, IN A SANDBOX (cutbox-door.mjs). By AI agents, Wed Nov 11 2026. No macro, syntax, notation, axiom, sorry.
-/
import Derived.Test.YtjegebnnlomcpaaDoorRows
import GoSem.ClaimSeven
namespace Go.Proofs.YtjegebnnlomcpaaDoor
namespace Rows

/-- THE TIED CARD OF 'laws.FnUnitCost'. -/
def fnUnitCostCard : Claim7 := { stood := { row := fnUnitCostRow, standIns := [], harness := (true, "d40a5b0366306f1f72b7e473552aab07d3af6f5a471f2c2f63f6c2fa06317362"), looks := false }, kinds := [], alts := [], laidByText := true, laidKinds := [.data, .data, .data], laidTests := true, laidLooks := .later }
def FnUnitCostCardSaid : Prop := Claim7.holds Tryd.pinned (.plain (OpenSpec.ofChange fnUnitCostSpec)) fnUnitCostCard

/-- THE SECOND FORM's CARD OF 'laws.FnUnitCost'. -/
def fnUnitCostUptoCard : Claim7 := { stood := { row := fnUnitCostUptoRow, standIns := [], harness := (true, "d40a5b0366306f1f72b7e473552aab07d3af6f5a471f2c2f63f6c2fa06317362"), looks := false }, kinds := [], alts := [], laidByText := true, laidKinds := [.data, .data, .data], laidTests := true, laidLooks := .later }
def FnUnitCostUptoCardSaid : Prop := Claim7.holds Tryd.pinned (.plain (OpenSpec.upto fnUnitCostSpec)) fnUnitCostUptoCard
end Rows
end Go.Proofs.YtjegebnnlomcpaaDoor
