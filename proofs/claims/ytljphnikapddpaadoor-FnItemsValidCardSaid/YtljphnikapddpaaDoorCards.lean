/-
  DERIVED. GIVEN WITH THE SEED: THE CARDS: each row of YtljphnikapddpaaDoorRows.lean that lists a variable, with what it lists TIED to the program's text (the seventh form; the later family's looks); each row that meets fmt, with fmt's text TOLD by the authors' own Lean function (tested against real Go, not proved from fmt's source: count such statements apart). THE CARD IS WHAT COUNTS. Prove the row's statement (the work); the ties are given (YtljphnikapddpaaDoorTie.lean); close each card by the builder's one call (the guide's Derived/Test/ToyasCard.lean, 'card_holds'). Laid BY PROGRAM, IN A SANDBOX (cutbox-door.mjs). By AI agents, Wed Nov 11 2026. No macro, syntax, notation, axiom, sorry.
-/
import Derived.Test.YtljphnikapddpaaDoorRows
import GoSem.ClaimSeven
namespace Go.Proofs.YtljphnikapddpaaDoor
namespace Rows

/-- THE TIED CARD OF 'laws.FnTasksValid'. -/
def fnTasksValidCard : Claim7 := { stood := { row := fnTasksValidRow, standIns := [], harness := (true, "0daefa8b6272ed96c9d1ce4fdbf94d6d2bdadd2b12890f43ee0955802ca3eb0f"), looks := false }, kinds := [], alts := [], laidByText := true, laidKinds := [.data, .data, .data], laidTests := true, laidLooks := .later }
def FnTasksValidCardSaid : Prop := Claim7.holds Tryd.pinned (.plain (OpenSpec.ofChange fnTasksValidSpec)) fnTasksValidCard

/-- THE TIED CARD OF 'laws.FnItemsValid'. -/
def fnItemsValidCard : Claim7 := { stood := { row := fnItemsValidRow, standIns := [], harness := (true, "0daefa8b6272ed96c9d1ce4fdbf94d6d2bdadd2b12890f43ee0955802ca3eb0f"), looks := false }, kinds := [], alts := [], laidByText := true, laidKinds := [.data, .data, .data], laidTests := true, laidLooks := .later }
def FnItemsValidCardSaid : Prop := Claim7.holds Tryd.pinned (.plain (OpenSpec.ofChange fnItemsValidSpec)) fnItemsValidCard

/-- THE SECOND FORM's CARD OF 'laws.FnTasksValid'. -/
def fnTasksValidUptoCard : Claim7 := { stood := { row := fnTasksValidUptoRow, standIns := [], harness := (true, "0daefa8b6272ed96c9d1ce4fdbf94d6d2bdadd2b12890f43ee0955802ca3eb0f"), looks := false }, kinds := [], alts := [], laidByText := true, laidKinds := [.data, .data, .data], laidTests := true, laidLooks := .later }
def FnTasksValidUptoCardSaid : Prop := Claim7.holds Tryd.pinned (.plain (OpenSpec.upto fnTasksValidSpec)) fnTasksValidUptoCard

/-- THE SECOND FORM's CARD OF 'laws.FnItemsValid'. -/
def fnItemsValidUptoCard : Claim7 := { stood := { row := fnItemsValidUptoRow, standIns := [], harness := (true, "0daefa8b6272ed96c9d1ce4fdbf94d6d2bdadd2b12890f43ee0955802ca3eb0f"), looks := false }, kinds := [], alts := [], laidByText := true, laidKinds := [.data, .data, .data], laidTests := true, laidLooks := .later }
def FnItemsValidUptoCardSaid : Prop := Claim7.holds Tryd.pinned (.plain (OpenSpec.upto fnItemsValidSpec)) fnItemsValidUptoCard
end Rows
end Go.Proofs.YtljphnikapddpaaDoor
