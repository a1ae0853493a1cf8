/-
  DERIVED. GIVEN WITH THE SEED: THE CARDS: each row of YtaelapimchmbcaaDoorRows.lean that lists a variable, with what it lists TIED to the program's text (the seventh form; the later family's looks); each row that meets fmt, with fmt's text TOLD by the authors' own Lean function (tested against real Go, not proved from fmt's source: count such statements apart). THE CARD IS WHAT COUNTS. Prove the row's statement (the work); the ties are given (YtaelapimchmbcaaDoorTie.lean); close each card by the builder's one call (the guide's Derived/Test/ToyasCard.lean, 'card_holds'). Laid BY PROGRAM, IN A SANDBOX (cutbox-door.mjs). By AI agents, Wed Nov 11 2026. No macro, syntax, notation, axiom, sorry.
-/
import Derived.Test.YtaelapimchmbcaaDoorRows
import GoSem.ClaimSeven
namespace Go.Proofs.YtaelapimchmbcaaDoor
namespace Rows

/-- THE TIED CARD OF 'laws.FnItemText'. -/
def fnItemTextCard : Claim7 := { stood := { row := fnItemTextRow, standIns := [], harness := (true, "42ed73576d0d23b1fe78a90f9f0287912c31cf7ada755f8b512e18aefeda310c"), looks := true }, kinds := [], alts := [], laidByText := true, laidKinds := [.data, .data, .data, .data, .sentinel, .sentinel, .pinned], laidTests := true, laidLooks := .later }
def FnItemTextCardSaid : Prop := Claim7.holds Tryd.pinned (.plain (OpenSpec.ofChange fnItemTextSpec)) fnItemTextCard

/-- THE TIED CARD OF 'laws.FnReadItem'. -/
def fnReadItemCard : Claim7 := { stood := { row := fnReadItemRow, standIns := [], harness := (true, "42ed73576d0d23b1fe78a90f9f0287912c31cf7ada755f8b512e18aefeda310c"), looks := true }, kinds := [], alts := [], laidByText := true, laidKinds := [.data, .data, .data, .data, .sentinel, .sentinel, .pinned], laidTests := true, laidLooks := .later }
def FnReadItemCardSaid : Prop := Claim7.holds Tryd.pinned (.plain (OpenSpec.ofChange fnReadItemSpec)) fnReadItemCard

/-- THE TIED CARD OF 'laws.FnExactItemText'. -/
def fnExactItemTextCard : Claim7 := { stood := { row := fnExactItemTextRow, standIns := [], harness := (true, "42ed73576d0d23b1fe78a90f9f0287912c31cf7ada755f8b512e18aefeda310c"), looks := true }, kinds := [], alts := [], laidByText := true, laidKinds := [.data, .data, .data], laidTests := true, laidLooks := .later }
def FnExactItemTextCardSaid : Prop := Claim7.holds Tryd.pinned (.plain (OpenSpec.ofChange fnExactItemTextSpec)) fnExactItemTextCard

/-- THE TIED CARD OF 'laws.FnExactReadItem'. -/
def fnExactReadItemCard : Claim7 := { stood := { row := fnExactReadItemRow, standIns := [], harness := (true, "42ed73576d0d23b1fe78a90f9f0287912c31cf7ada755f8b512e18aefeda310c"), looks := true }, kinds := [], alts := [], laidByText := true, laidKinds := [.data, .data, .data, .data, .sentinel, .sentinel, .pinned], laidTests := true, laidLooks := .later }
def FnExactReadItemCardSaid : Prop := Claim7.holds Tryd.pinned (.plain (OpenSpec.ofChange fnExactReadItemSpec)) fnExactReadItemCard

/-- THE SECOND FORM's CARD OF 'laws.FnItemText'. -/
def fnItemTextUptoCard : Claim7 := { stood := { row := fnItemTextUptoRow, standIns := [], harness := (true, "42ed73576d0d23b1fe78a90f9f0287912c31cf7ada755f8b512e18aefeda310c"), looks := true }, kinds := [], alts := [], laidByText := true, laidKinds := [.data, .data, .data, .data, .sentinel, .sentinel, .pinned], laidTests := true, laidLooks := .later }
def FnItemTextUptoCardSaid : Prop := Claim7.holds Tryd.pinned (.plain (OpenSpec.upto fnItemTextSpec)) fnItemTextUptoCard

/-- THE SECOND FORM's CARD OF 'laws.FnReadItem'. -/
def fnReadItemUptoCard : Claim7 := { stood := { row := fnReadItemUptoRow, standIns := [], harness := (true, "42ed73576d0d23b1fe78a90f9f0287912c31cf7ada755f8b512e18aefeda310c"), looks := true }, kinds := [], alts := [], laidByText := true, laidKinds := [.data, .data, .data, .data, .sentinel, .sentinel, .pinned], laidTests := true, laidLooks := .later }
def FnReadItemUptoCardSaid : Prop := Claim7.holds Tryd.pinned (.plain (OpenSpec.upto fnReadItemSpec)) fnReadItemUptoCard

/-- THE SECOND FORM's CARD OF 'laws.FnExactItemText'. -/
def fnExactItemTextUptoCard : Claim7 := { stood := { row := fnExactItemTextUptoRow, standIns := [], harness := (true, "42ed73576d0d23b1fe78a90f9f0287912c31cf7ada755f8b512e18aefeda310c"), looks := true }, kinds := [], alts := [], laidByText := true, laidKinds := [.data, .data, .data], laidTests := true, laidLooks := .later }
def FnExactItemTextUptoCardSaid : Prop := Claim7.holds Tryd.pinned (.plain (OpenSpec.upto fnExactItemTextSpec)) fnExactItemTextUptoCard

/-- THE SECOND FORM's CARD OF 'laws.FnExactReadItem'. -/
def fnExactReadItemUptoCard : Claim7 := { stood := { row := fnExactReadItemUptoRow, standIns := [], harness := (true, "42ed73576d0d23b1fe78a90f9f0287912c31cf7ada755f8b512e18aefeda310c"), looks := true }, kinds := [], alts := [], laidByText := true, laidKinds := [.data, .data, .data, .data, .sentinel, .sentinel, .pinned], laidTests := true, laidLooks := .later }
def FnExactReadItemUptoCardSaid : Prop := Claim7.holds Tryd.pinned (.plain (OpenSpec.upto fnExactReadItemSpec)) fnExactReadItemUptoCard
end Rows
end Go.Proofs.YtaelapimchmbcaaDoor
