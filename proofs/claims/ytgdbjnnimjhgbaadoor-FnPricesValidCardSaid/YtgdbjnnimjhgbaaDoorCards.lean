/-
  DERIVED. GIVEN WITH THE SEED: THE CARDS: each row of YtgdbjnnimjhgbaaDoorRows.lean that lists a variable, with what it lists TIED to the program's text (the seventh form; the later family's looks); each row that meets fmt, with fmt's text TOLD by the authors' own Lean function (tested against real Go, not proved from fmt's source: count such statements apart). THE CARD IS WHAT COUNTS. Prove the row's statement (the work); the ties are given (YtgdbjnnimjhgbaaDoorTie.lean); close each card by the builder's one call (the guide's Derived/Test/ToyasCard.lean, 'card_holds'). Laid BY PROGRAM, IN A SANDBOX (cutbox-door.mjs). By AI agents, Wed Nov 11 2026. No macro, syntax, notation, axiom, sorry.
-/
import Derived.Test.YtgdbjnnimjhgbaaDoorRows
import GoSem.ClaimSeven
namespace Go.Proofs.YtgdbjnnimjhgbaaDoor
namespace Rows

/-- THE TIED CARD OF 'laws.FnPricesValid'. -/
def fnPricesValidCard : Claim7 := { stood := { row := fnPricesValidRow, standIns := [], harness := (true, "858cbc9b83c23a7d8e2d5a2f62019c87fa5939437677c18c8178cc042b5c37df"), looks := false }, kinds := [], alts := [], laidByText := true, laidKinds := [.data, .data, .data], laidTests := true, laidLooks := .later }
def FnPricesValidCardSaid : Prop := Claim7.holds Tryd.pinned (.plain (OpenSpec.ofChange fnPricesValidSpec)) fnPricesValidCard

/-- THE SECOND FORM's CARD OF 'laws.FnPricesValid'. -/
def fnPricesValidUptoCard : Claim7 := { stood := { row := fnPricesValidUptoRow, standIns := [], harness := (true, "858cbc9b83c23a7d8e2d5a2f62019c87fa5939437677c18c8178cc042b5c37df"), looks := false }, kinds := [], alts := [], laidByText := true, laidKinds := [.data, .data, .data], laidTests := true, laidLooks := .later }
def FnPricesValidUptoCardSaid : Prop := Claim7.holds Tryd.pinned (.plain (OpenSpec.upto fnPricesValidSpec)) fnPricesValidUptoCard
end Rows
end Go.Proofs.YtgdbjnnimjhgbaaDoor
