/-
  DERIVED. GIVEN WITH THE SEED: THE CARDS: each row of YtefpifpalnafmaaDoorRows.lean that lists a variable, with what it lists TIED to the program's text (the seventh form; the later family's looks); each row that meets fmt, with fmt's text TOLD by the authors' own Lean function (tested against real Go, not proved from fmt's source: count such statements apart). THE CARD IS WHAT COUNTS. Prove the row's statement (the work); the ties are given (YtefpifpalnafmaaDoorTie.lean); close each card by the builder's one call (the guide's Derived/Test/ToyasCard.lean, 'card_holds'). Laid BY PROGRAM, IN A SANDBOX (cutbox-door.mjs). By AI agents, Wed Nov 11 2026. No macro, syntax, notation, axiom, sorry.
-/
import Derived.Test.YtefpifpalnafmaaDoorRows
import GoSem.ClaimSeven
namespace Go.Proofs.YtefpifpalnafmaaDoor
namespace Rows

/-- THE TIED CARD OF 'laws.FnExactHouseValid'. -/
def fnExactHouseValidCard : Claim7 := { stood := { row := fnExactHouseValidRow, standIns := [], harness := (true, "734e23a8e3c45be4aa0c0e6a2ae0908cc80eca6ed432b319575eded03a0cbdc4"), looks := false }, kinds := [], alts := [], laidByText := true, laidKinds := [.data], laidTests := true, laidLooks := .later }
def FnExactHouseValidCardSaid : Prop := Claim7.holds Tryd.pinned (.plain (OpenSpec.ofChange fnExactHouseValidSpec)) fnExactHouseValidCard

/-- THE TIED CARD OF 'laws.FnExactTableBill'. -/
def fnExactTableBillCard : Claim7 := { stood := { row := fnExactTableBillRow, standIns := [], harness := (true, "734e23a8e3c45be4aa0c0e6a2ae0908cc80eca6ed432b319575eded03a0cbdc4"), looks := false }, kinds := [], alts := [], laidByText := true, laidKinds := [.data], laidTests := true, laidLooks := .later }
def FnExactTableBillCardSaid : Prop := Claim7.holds Tryd.pinned (.plain (OpenSpec.ofChange fnExactTableBillSpec)) fnExactTableBillCard

/-- THE TIED CARD OF 'laws.FnExactHouseWorth'. -/
def fnExactHouseWorthCard : Claim7 := { stood := { row := fnExactHouseWorthRow, standIns := [], harness := (true, "734e23a8e3c45be4aa0c0e6a2ae0908cc80eca6ed432b319575eded03a0cbdc4"), looks := false }, kinds := [], alts := [], laidByText := true, laidKinds := [.data], laidTests := true, laidLooks := .later }
def FnExactHouseWorthCardSaid : Prop := Claim7.holds Tryd.pinned (.plain (OpenSpec.ofChange fnExactHouseWorthSpec)) fnExactHouseWorthCard

/-- THE TIED CARD OF 'laws.FnExactEndDeeds'. -/
def fnExactEndDeedsCard : Claim7 := { stood := { row := fnExactEndDeedsRow, standIns := [], harness := (true, "734e23a8e3c45be4aa0c0e6a2ae0908cc80eca6ed432b319575eded03a0cbdc4"), looks := false }, kinds := [], alts := [], laidByText := true, laidKinds := [.data], laidTests := true, laidLooks := .later }
def FnExactEndDeedsCardSaid : Prop := Claim7.holds Tryd.pinned (.plain (OpenSpec.ofChange fnExactEndDeedsSpec)) fnExactEndDeedsCard

/-- THE SECOND FORM's CARD OF 'laws.FnExactHouseValid'. -/
def fnExactHouseValidUptoCard : Claim7 := { stood := { row := fnExactHouseValidUptoRow, standIns := [], harness := (true, "734e23a8e3c45be4aa0c0e6a2ae0908cc80eca6ed432b319575eded03a0cbdc4"), looks := false }, kinds := [], alts := [], laidByText := true, laidKinds := [.data], laidTests := true, laidLooks := .later }
def FnExactHouseValidUptoCardSaid : Prop := Claim7.holds Tryd.pinned (.plain (OpenSpec.upto fnExactHouseValidSpec)) fnExactHouseValidUptoCard

/-- THE SECOND FORM's CARD OF 'laws.FnExactTableBill'. -/
def fnExactTableBillUptoCard : Claim7 := { stood := { row := fnExactTableBillUptoRow, standIns := [], harness := (true, "734e23a8e3c45be4aa0c0e6a2ae0908cc80eca6ed432b319575eded03a0cbdc4"), looks := false }, kinds := [], alts := [], laidByText := true, laidKinds := [.data], laidTests := true, laidLooks := .later }
def FnExactTableBillUptoCardSaid : Prop := Claim7.holds Tryd.pinned (.plain (OpenSpec.upto fnExactTableBillSpec)) fnExactTableBillUptoCard

/-- THE SECOND FORM's CARD OF 'laws.FnExactHouseWorth'. -/
def fnExactHouseWorthUptoCard : Claim7 := { stood := { row := fnExactHouseWorthUptoRow, standIns := [], harness := (true, "734e23a8e3c45be4aa0c0e6a2ae0908cc80eca6ed432b319575eded03a0cbdc4"), looks := false }, kinds := [], alts := [], laidByText := true, laidKinds := [.data], laidTests := true, laidLooks := .later }
def FnExactHouseWorthUptoCardSaid : Prop := Claim7.holds Tryd.pinned (.plain (OpenSpec.upto fnExactHouseWorthSpec)) fnExactHouseWorthUptoCard

/-- THE SECOND FORM's CARD OF 'laws.FnExactEndDeeds'. -/
def fnExactEndDeedsUptoCard : Claim7 := { stood := { row := fnExactEndDeedsUptoRow, standIns := [], harness := (true, "734e23a8e3c45be4aa0c0e6a2ae0908cc80eca6ed432b319575eded03a0cbdc4"), looks := false }, kinds := [], alts := [], laidByText := true, laidKinds := [.data], laidTests := true, laidLooks := .later }
def FnExactEndDeedsUptoCardSaid : Prop := Claim7.holds Tryd.pinned (.plain (OpenSpec.upto fnExactEndDeedsSpec)) fnExactEndDeedsUptoCard
end Rows
end Go.Proofs.YtefpifpalnafmaaDoor
