/-
  DERIVED. GIVEN WITH THE SEED: THE CARDS: each row of YtgpcbigaeodhfaaDoorRows.lean that lists a variable, with what it lists TIED to the program's text (the seventh form; the later family's looks); each row that meets fmt, with fmt's text TOLD by the authors' own Lean function (tested against real Go, not proved from fmt's source: count such statements apart). THE CARD IS WHAT COUNTS. Prove the row's statement (the work); the ties are given (YtgpcbigaeodhfaaDoorTie.lean); close each card by the builder's one call (the guide's Derived/Test/ToyasCard.lean, 'card_holds'). Laid BY PROGRAM, IN A SANDBOX (cutbox-door.mjs). By AI agents, Wed Nov 11 2026. No macro, syntax, notation, axiom, sorry.
-/
import Derived.Test.YtgpcbigaeodhfaaDoorRows
import GoSem.ClaimSeven
namespace Go.Proofs.YtgpcbigaeodhfaaDoor
namespace Rows

/-- THE TIED CARD OF 'laws.FnUnitCost'. -/
def fnUnitCostCard : Claim7 := { stood := { row := fnUnitCostRow, standIns := [], harness := (true, "ef75af139aee1dd3ce56cd26cfe9014b5bcd58ded204b5a1e0a030abbadb989b"), looks := false }, kinds := [], alts := [], laidByText := true, laidKinds := [.data, .data, .data], laidTests := true, laidLooks := .later }
def FnUnitCostCardSaid : Prop := Claim7.holds Tryd.pinned (.plain (OpenSpec.ofChange fnUnitCostSpec)) fnUnitCostCard

/-- THE TIED CARD OF 'laws.FnMakeRun'. -/
def fnMakeRunCard : Claim7 := { stood := { row := fnMakeRunRow, standIns := [], harness := (true, "ef75af139aee1dd3ce56cd26cfe9014b5bcd58ded204b5a1e0a030abbadb989b"), looks := false }, kinds := [], alts := [], laidByText := true, laidKinds := [.data, .data, .data], laidTests := true, laidLooks := .later }
def FnMakeRunCardSaid : Prop := Claim7.holds Tryd.pinned (.plain (OpenSpec.ofChange fnMakeRunSpec)) fnMakeRunCard

/-- THE TIED CARD OF 'laws.FnApartValid'. -/
def fnApartValidCard : Claim7 := { stood := { row := fnApartValidRow, standIns := [], harness := (true, "ef75af139aee1dd3ce56cd26cfe9014b5bcd58ded204b5a1e0a030abbadb989b"), looks := false }, kinds := [], alts := [], laidByText := true, laidKinds := [.data, .data, .data], laidTests := true, laidLooks := .later }
def FnApartValidCardSaid : Prop := Claim7.holds Tryd.pinned (.plain (OpenSpec.ofChange fnApartValidSpec)) fnApartValidCard

/-- THE TIED CARD OF 'laws.FnSeatsOk'. -/
def fnSeatsOkCard : Claim7 := { stood := { row := fnSeatsOkRow, standIns := [], harness := (true, "ef75af139aee1dd3ce56cd26cfe9014b5bcd58ded204b5a1e0a030abbadb989b"), looks := false }, kinds := [], alts := [], laidByText := true, laidKinds := [.data, .data, .data], laidTests := true, laidLooks := .later }
def FnSeatsOkCardSaid : Prop := Claim7.holds Tryd.pinned (.plain (OpenSpec.ofChange fnSeatsOkSpec)) fnSeatsOkCard

/-- THE TIED CARD OF 'laws.FnSeatsMany'. -/
def fnSeatsManyCard : Claim7 := { stood := { row := fnSeatsManyRow, standIns := [], harness := (true, "ef75af139aee1dd3ce56cd26cfe9014b5bcd58ded204b5a1e0a030abbadb989b"), looks := false }, kinds := [], alts := [], laidByText := true, laidKinds := [.data, .data, .data], laidTests := true, laidLooks := .later }
def FnSeatsManyCardSaid : Prop := Claim7.holds Tryd.pinned (.plain (OpenSpec.ofChange fnSeatsManySpec)) fnSeatsManyCard

/-- THE TIED CARD OF 'laws.FnSeatsFirst'. -/
def fnSeatsFirstCard : Claim7 := { stood := { row := fnSeatsFirstRow, standIns := [], harness := (true, "ef75af139aee1dd3ce56cd26cfe9014b5bcd58ded204b5a1e0a030abbadb989b"), looks := false }, kinds := [], alts := [], laidByText := true, laidKinds := [.data, .data, .data], laidTests := true, laidLooks := .later }
def FnSeatsFirstCardSaid : Prop := Claim7.holds Tryd.pinned (.plain (OpenSpec.ofChange fnSeatsFirstSpec)) fnSeatsFirstCard

/-- THE TIED CARD OF 'laws.FnSeatsLeast'. -/
def fnSeatsLeastCard : Claim7 := { stood := { row := fnSeatsLeastRow, standIns := [], harness := (true, "ef75af139aee1dd3ce56cd26cfe9014b5bcd58ded204b5a1e0a030abbadb989b"), looks := false }, kinds := [], alts := [], laidByText := true, laidKinds := [.data, .data, .data], laidTests := true, laidLooks := .later }
def FnSeatsLeastCardSaid : Prop := Claim7.holds Tryd.pinned (.plain (OpenSpec.ofChange fnSeatsLeastSpec)) fnSeatsLeastCard

/-- THE TIED CARD OF 'laws.FnCliqueMost'. -/
def fnCliqueMostCard : Claim7 := { stood := { row := fnCliqueMostRow, standIns := [], harness := (true, "ef75af139aee1dd3ce56cd26cfe9014b5bcd58ded204b5a1e0a030abbadb989b"), looks := false }, kinds := [], alts := [], laidByText := true, laidKinds := [.data, .data, .data], laidTests := true, laidLooks := .later }
def FnCliqueMostCardSaid : Prop := Claim7.holds Tryd.pinned (.plain (OpenSpec.ofChange fnCliqueMostSpec)) fnCliqueMostCard

/-- THE SECOND FORM's CARD OF 'laws.FnUnitCost'. -/
def fnUnitCostUptoCard : Claim7 := { stood := { row := fnUnitCostUptoRow, standIns := [], harness := (true, "ef75af139aee1dd3ce56cd26cfe9014b5bcd58ded204b5a1e0a030abbadb989b"), looks := false }, kinds := [], alts := [], laidByText := true, laidKinds := [.data, .data, .data], laidTests := true, laidLooks := .later }
def FnUnitCostUptoCardSaid : Prop := Claim7.holds Tryd.pinned (.plain (OpenSpec.upto fnUnitCostSpec)) fnUnitCostUptoCard

/-- THE SECOND FORM's CARD OF 'laws.FnMakeRun'. -/
def fnMakeRunUptoCard : Claim7 := { stood := { row := fnMakeRunUptoRow, standIns := [], harness := (true, "ef75af139aee1dd3ce56cd26cfe9014b5bcd58ded204b5a1e0a030abbadb989b"), looks := false }, kinds := [], alts := [], laidByText := true, laidKinds := [.data, .data, .data], laidTests := true, laidLooks := .later }
def FnMakeRunUptoCardSaid : Prop := Claim7.holds Tryd.pinned (.plain (OpenSpec.upto fnMakeRunSpec)) fnMakeRunUptoCard

/-- THE SECOND FORM's CARD OF 'laws.FnApartValid'. -/
def fnApartValidUptoCard : Claim7 := { stood := { row := fnApartValidUptoRow, standIns := [], harness := (true, "ef75af139aee1dd3ce56cd26cfe9014b5bcd58ded204b5a1e0a030abbadb989b"), looks := false }, kinds := [], alts := [], laidByText := true, laidKinds := [.data, .data, .data], laidTests := true, laidLooks := .later }
def FnApartValidUptoCardSaid : Prop := Claim7.holds Tryd.pinned (.plain (OpenSpec.upto fnApartValidSpec)) fnApartValidUptoCard

/-- THE SECOND FORM's CARD OF 'laws.FnSeatsOk'. -/
def fnSeatsOkUptoCard : Claim7 := { stood := { row := fnSeatsOkUptoRow, standIns := [], harness := (true, "ef75af139aee1dd3ce56cd26cfe9014b5bcd58ded204b5a1e0a030abbadb989b"), looks := false }, kinds := [], alts := [], laidByText := true, laidKinds := [.data, .data, .data], laidTests := true, laidLooks := .later }
def FnSeatsOkUptoCardSaid : Prop := Claim7.holds Tryd.pinned (.plain (OpenSpec.upto fnSeatsOkSpec)) fnSeatsOkUptoCard

/-- THE SECOND FORM's CARD OF 'laws.FnSeatsMany'. -/
def fnSeatsManyUptoCard : Claim7 := { stood := { row := fnSeatsManyUptoRow, standIns := [], harness := (true, "ef75af139aee1dd3ce56cd26cfe9014b5bcd58ded204b5a1e0a030abbadb989b"), looks := false }, kinds := [], alts := [], laidByText := true, laidKinds := [.data, .data, .data], laidTests := true, laidLooks := .later }
def FnSeatsManyUptoCardSaid : Prop := Claim7.holds Tryd.pinned (.plain (OpenSpec.upto fnSeatsManySpec)) fnSeatsManyUptoCard

/-- THE SECOND FORM's CARD OF 'laws.FnSeatsFirst'. -/
def fnSeatsFirstUptoCard : Claim7 := { stood := { row := fnSeatsFirstUptoRow, standIns := [], harness := (true, "ef75af139aee1dd3ce56cd26cfe9014b5bcd58ded204b5a1e0a030abbadb989b"), looks := false }, kinds := [], alts := [], laidByText := true, laidKinds := [.data, .data, .data], laidTests := true, laidLooks := .later }
def FnSeatsFirstUptoCardSaid : Prop := Claim7.holds Tryd.pinned (.plain (OpenSpec.upto fnSeatsFirstSpec)) fnSeatsFirstUptoCard

/-- THE SECOND FORM's CARD OF 'laws.FnSeatsLeast'. -/
def fnSeatsLeastUptoCard : Claim7 := { stood := { row := fnSeatsLeastUptoRow, standIns := [], harness := (true, "ef75af139aee1dd3ce56cd26cfe9014b5bcd58ded204b5a1e0a030abbadb989b"), looks := false }, kinds := [], alts := [], laidByText := true, laidKinds := [.data, .data, .data], laidTests := true, laidLooks := .later }
def FnSeatsLeastUptoCardSaid : Prop := Claim7.holds Tryd.pinned (.plain (OpenSpec.upto fnSeatsLeastSpec)) fnSeatsLeastUptoCard

/-- THE SECOND FORM's CARD OF 'laws.FnCliqueMost'. -/
def fnCliqueMostUptoCard : Claim7 := { stood := { row := fnCliqueMostUptoRow, standIns := [], harness := (true, "ef75af139aee1dd3ce56cd26cfe9014b5bcd58ded204b5a1e0a030abbadb989b"), looks := false }, kinds := [], alts := [], laidByText := true, laidKinds := [.data, .data, .data], laidTests := true, laidLooks := .later }
def FnCliqueMostUptoCardSaid : Prop := Claim7.holds Tryd.pinned (.plain (OpenSpec.upto fnCliqueMostSpec)) fnCliqueMostUptoCard
end Rows
end Go.Proofs.YtgpcbigaeodhfaaDoor
