/-
  DERIVED. GIVEN WITH THE SEED: THE CARDS: each row of YteocmjffjinphaaDoorRows.lean that lists a variable, with what it lists TIED to the program's text (the seventh form; the later family's looks); each row that meets fmt, with fmt's text TOLD by the authors' own Lean function (tested against real Go, not proved from fmt's source: count such statements apart). THE CARD IS WHAT COUNTS. Prove the row's statement (the work); the ties are given (YteocmjffjinphaaDoorTie.lean); close each card by the builder's one call (the guide's Derived/Test/ToyasCard.lean, 'card_holds'). Laid BY PROGRAM, IN A SANDBOX (cutbox-door.mjs). By AI agents, Wed Nov 11 2026. No macro, syntax, notation, axiom, sorry.
-/
import Derived.Test.YteocmjffjinphaaDoorRows
import GoSem.ClaimSeven
namespace Go.Proofs.YteocmjffjinphaaDoor
namespace Rows

/-- THE TIED CARD OF 'laws.FnDishesValid'. -/
def fnDishesValidCard : Claim7 := { stood := { row := fnDishesValidRow, standIns := [], harness := (true, "d02cb4b1ffe36576fde6c6250e797d18cf5ee742241366fa1d1a0c3f94e0dacc"), looks := false }, kinds := [], alts := [], laidByText := true, laidKinds := [.data, .data, .data], laidTests := true, laidLooks := .later }
def FnDishesValidCardSaid : Prop := Claim7.holds Tryd.pinned (.plain (OpenSpec.ofChange fnDishesValidSpec)) fnDishesValidCard

/-- THE TIED CARD OF 'laws.FnOrderOk'. -/
def fnOrderOkCard : Claim7 := { stood := { row := fnOrderOkRow, standIns := [], harness := (true, "d02cb4b1ffe36576fde6c6250e797d18cf5ee742241366fa1d1a0c3f94e0dacc"), looks := false }, kinds := [], alts := [], laidByText := true, laidKinds := [.data, .data, .data], laidTests := true, laidLooks := .later }
def FnOrderOkCardSaid : Prop := Claim7.holds Tryd.pinned (.plain (OpenSpec.ofChange fnOrderOkSpec)) fnOrderOkCard

/-- THE TIED CARD OF 'laws.FnSpansValid'. -/
def fnSpansValidCard : Claim7 := { stood := { row := fnSpansValidRow, standIns := [], harness := (true, "d02cb4b1ffe36576fde6c6250e797d18cf5ee742241366fa1d1a0c3f94e0dacc"), looks := false }, kinds := [], alts := [], laidByText := true, laidKinds := [.data, .data, .data], laidTests := true, laidLooks := .later }
def FnSpansValidCardSaid : Prop := Claim7.holds Tryd.pinned (.plain (OpenSpec.ofChange fnSpansValidSpec)) fnSpansValidCard

/-- THE TIED CARD OF 'laws.FnBurnOk'. -/
def fnBurnOkCard : Claim7 := { stood := { row := fnBurnOkRow, standIns := [], harness := (true, "d02cb4b1ffe36576fde6c6250e797d18cf5ee742241366fa1d1a0c3f94e0dacc"), looks := false }, kinds := [], alts := [], laidByText := true, laidKinds := [.data, .data, .data], laidTests := true, laidLooks := .later }
def FnBurnOkCardSaid : Prop := Claim7.holds Tryd.pinned (.plain (OpenSpec.ofChange fnBurnOkSpec)) fnBurnOkCard

/-- THE TIED CARD OF 'laws.FnTogetherWaits'. -/
def fnTogetherWaitsCard : Claim7 := { stood := { row := fnTogetherWaitsRow, standIns := [], harness := (true, "d02cb4b1ffe36576fde6c6250e797d18cf5ee742241366fa1d1a0c3f94e0dacc"), looks := false }, kinds := [], alts := [], laidByText := true, laidKinds := [.data, .data, .data], laidTests := true, laidLooks := .later }
def FnTogetherWaitsCardSaid : Prop := Claim7.holds Tryd.pinned (.plain (OpenSpec.ofChange fnTogetherWaitsSpec)) fnTogetherWaitsCard

/-- THE TIED CARD OF 'laws.FnTogetherBest'. -/
def fnTogetherBestCard : Claim7 := { stood := { row := fnTogetherBestRow, standIns := [], harness := (true, "d02cb4b1ffe36576fde6c6250e797d18cf5ee742241366fa1d1a0c3f94e0dacc"), looks := false }, kinds := [], alts := [], laidByText := true, laidKinds := [.data, .data, .data], laidTests := true, laidLooks := .later }
def FnTogetherBestCardSaid : Prop := Claim7.holds Tryd.pinned (.plain (OpenSpec.ofChange fnTogetherBestSpec)) fnTogetherBestCard

/-- THE TIED CARD OF 'laws.FnSharesValid'. -/
def fnSharesValidCard : Claim7 := { stood := { row := fnSharesValidRow, standIns := [], harness := (true, "d02cb4b1ffe36576fde6c6250e797d18cf5ee742241366fa1d1a0c3f94e0dacc"), looks := false }, kinds := [], alts := [], laidByText := true, laidKinds := [.data, .data, .data], laidTests := true, laidLooks := .later }
def FnSharesValidCardSaid : Prop := Claim7.holds Tryd.pinned (.plain (OpenSpec.ofChange fnSharesValidSpec)) fnSharesValidCard

/-- THE TIED CARD OF 'laws.FnShareOf'. -/
def fnShareOfCard : Claim7 := { stood := { row := fnShareOfRow, standIns := [], harness := (true, "d02cb4b1ffe36576fde6c6250e797d18cf5ee742241366fa1d1a0c3f94e0dacc"), looks := false }, kinds := [], alts := [], laidByText := true, laidKinds := [.data, .data, .data], laidTests := true, laidLooks := .later }
def FnShareOfCardSaid : Prop := Claim7.holds Tryd.pinned (.plain (OpenSpec.ofChange fnShareOfSpec)) fnShareOfCard

/-- THE TIED CARD OF 'laws.FnTipOf'. -/
def fnTipOfCard : Claim7 := { stood := { row := fnTipOfRow, standIns := [], harness := (true, "d02cb4b1ffe36576fde6c6250e797d18cf5ee742241366fa1d1a0c3f94e0dacc"), looks := false }, kinds := [], alts := [], laidByText := true, laidKinds := [.data, .data, .data], laidTests := true, laidLooks := .later }
def FnTipOfCardSaid : Prop := Claim7.holds Tryd.pinned (.plain (OpenSpec.ofChange fnTipOfSpec)) fnTipOfCard

/-- THE TIED CARD OF 'laws.FnOwedValid'. -/
def fnOwedValidCard : Claim7 := { stood := { row := fnOwedValidRow, standIns := [], harness := (true, "d02cb4b1ffe36576fde6c6250e797d18cf5ee742241366fa1d1a0c3f94e0dacc"), looks := false }, kinds := [], alts := [], laidByText := true, laidKinds := [.data, .data, .data], laidTests := true, laidLooks := .later }
def FnOwedValidCardSaid : Prop := Claim7.holds Tryd.pinned (.plain (OpenSpec.ofChange fnOwedValidSpec)) fnOwedValidCard

/-- THE TIED CARD OF 'laws.FnOwedOf'. -/
def fnOwedOfCard : Claim7 := { stood := { row := fnOwedOfRow, standIns := [], harness := (true, "d02cb4b1ffe36576fde6c6250e797d18cf5ee742241366fa1d1a0c3f94e0dacc"), looks := false }, kinds := [], alts := [], laidByText := true, laidKinds := [.data, .data, .data], laidTests := true, laidLooks := .later }
def FnOwedOfCardSaid : Prop := Claim7.holds Tryd.pinned (.plain (OpenSpec.ofChange fnOwedOfSpec)) fnOwedOfCard

/-- THE TIED CARD OF 'laws.FnSettleFast'. -/
def fnSettleFastCard : Claim7 := { stood := { row := fnSettleFastRow, standIns := [], harness := (true, "d02cb4b1ffe36576fde6c6250e797d18cf5ee742241366fa1d1a0c3f94e0dacc"), looks := false }, kinds := [], alts := [], laidByText := true, laidKinds := [.data, .data, .data], laidTests := true, laidLooks := .later }
def FnSettleFastCardSaid : Prop := Claim7.holds Tryd.pinned (.plain (OpenSpec.ofChange fnSettleFastSpec)) fnSettleFastCard

/-- THE TIED CARD OF 'laws.FnTicketValid'. -/
def fnTicketValidCard : Claim7 := { stood := { row := fnTicketValidRow, standIns := [], harness := (true, "d02cb4b1ffe36576fde6c6250e797d18cf5ee742241366fa1d1a0c3f94e0dacc"), looks := false }, kinds := [], alts := [], laidByText := true, laidKinds := [.data, .data, .data, .data], laidTests := true, laidLooks := .later }
def FnTicketValidCardSaid : Prop := Claim7.holds Tryd.pinned (.plain (OpenSpec.ofChange fnTicketValidSpec)) fnTicketValidCard

/-- THE SECOND FORM's CARD OF 'laws.FnDishesValid'. -/
def fnDishesValidUptoCard : Claim7 := { stood := { row := fnDishesValidUptoRow, standIns := [], harness := (true, "d02cb4b1ffe36576fde6c6250e797d18cf5ee742241366fa1d1a0c3f94e0dacc"), looks := false }, kinds := [], alts := [], laidByText := true, laidKinds := [.data, .data, .data], laidTests := true, laidLooks := .later }
def FnDishesValidUptoCardSaid : Prop := Claim7.holds Tryd.pinned (.plain (OpenSpec.upto fnDishesValidSpec)) fnDishesValidUptoCard

/-- THE SECOND FORM's CARD OF 'laws.FnOrderOk'. -/
def fnOrderOkUptoCard : Claim7 := { stood := { row := fnOrderOkUptoRow, standIns := [], harness := (true, "d02cb4b1ffe36576fde6c6250e797d18cf5ee742241366fa1d1a0c3f94e0dacc"), looks := false }, kinds := [], alts := [], laidByText := true, laidKinds := [.data, .data, .data], laidTests := true, laidLooks := .later }
def FnOrderOkUptoCardSaid : Prop := Claim7.holds Tryd.pinned (.plain (OpenSpec.upto fnOrderOkSpec)) fnOrderOkUptoCard

/-- THE SECOND FORM's CARD OF 'laws.FnSpansValid'. -/
def fnSpansValidUptoCard : Claim7 := { stood := { row := fnSpansValidUptoRow, standIns := [], harness := (true, "d02cb4b1ffe36576fde6c6250e797d18cf5ee742241366fa1d1a0c3f94e0dacc"), looks := false }, kinds := [], alts := [], laidByText := true, laidKinds := [.data, .data, .data], laidTests := true, laidLooks := .later }
def FnSpansValidUptoCardSaid : Prop := Claim7.holds Tryd.pinned (.plain (OpenSpec.upto fnSpansValidSpec)) fnSpansValidUptoCard

/-- THE SECOND FORM's CARD OF 'laws.FnBurnOk'. -/
def fnBurnOkUptoCard : Claim7 := { stood := { row := fnBurnOkUptoRow, standIns := [], harness := (true, "d02cb4b1ffe36576fde6c6250e797d18cf5ee742241366fa1d1a0c3f94e0dacc"), looks := false }, kinds := [], alts := [], laidByText := true, laidKinds := [.data, .data, .data], laidTests := true, laidLooks := .later }
def FnBurnOkUptoCardSaid : Prop := Claim7.holds Tryd.pinned (.plain (OpenSpec.upto fnBurnOkSpec)) fnBurnOkUptoCard

/-- THE SECOND FORM's CARD OF 'laws.FnTogetherWaits'. -/
def fnTogetherWaitsUptoCard : Claim7 := { stood := { row := fnTogetherWaitsUptoRow, standIns := [], harness := (true, "d02cb4b1ffe36576fde6c6250e797d18cf5ee742241366fa1d1a0c3f94e0dacc"), looks := false }, kinds := [], alts := [], laidByText := true, laidKinds := [.data, .data, .data], laidTests := true, laidLooks := .later }
def FnTogetherWaitsUptoCardSaid : Prop := Claim7.holds Tryd.pinned (.plain (OpenSpec.upto fnTogetherWaitsSpec)) fnTogetherWaitsUptoCard

/-- THE SECOND FORM's CARD OF 'laws.FnTogetherBest'. -/
def fnTogetherBestUptoCard : Claim7 := { stood := { row := fnTogetherBestUptoRow, standIns := [], harness := (true, "d02cb4b1ffe36576fde6c6250e797d18cf5ee742241366fa1d1a0c3f94e0dacc"), looks := false }, kinds := [], alts := [], laidByText := true, laidKinds := [.data, .data, .data], laidTests := true, laidLooks := .later }
def FnTogetherBestUptoCardSaid : Prop := Claim7.holds Tryd.pinned (.plain (OpenSpec.upto fnTogetherBestSpec)) fnTogetherBestUptoCard

/-- THE SECOND FORM's CARD OF 'laws.FnSharesValid'. -/
def fnSharesValidUptoCard : Claim7 := { stood := { row := fnSharesValidUptoRow, standIns := [], harness := (true, "d02cb4b1ffe36576fde6c6250e797d18cf5ee742241366fa1d1a0c3f94e0dacc"), looks := false }, kinds := [], alts := [], laidByText := true, laidKinds := [.data, .data, .data], laidTests := true, laidLooks := .later }
def FnSharesValidUptoCardSaid : Prop := Claim7.holds Tryd.pinned (.plain (OpenSpec.upto fnSharesValidSpec)) fnSharesValidUptoCard

/-- THE SECOND FORM's CARD OF 'laws.FnShareOf'. -/
def fnShareOfUptoCard : Claim7 := { stood := { row := fnShareOfUptoRow, standIns := [], harness := (true, "d02cb4b1ffe36576fde6c6250e797d18cf5ee742241366fa1d1a0c3f94e0dacc"), looks := false }, kinds := [], alts := [], laidByText := true, laidKinds := [.data, .data, .data], laidTests := true, laidLooks := .later }
def FnShareOfUptoCardSaid : Prop := Claim7.holds Tryd.pinned (.plain (OpenSpec.upto fnShareOfSpec)) fnShareOfUptoCard

/-- THE SECOND FORM's CARD OF 'laws.FnTipOf'. -/
def fnTipOfUptoCard : Claim7 := { stood := { row := fnTipOfUptoRow, standIns := [], harness := (true, "d02cb4b1ffe36576fde6c6250e797d18cf5ee742241366fa1d1a0c3f94e0dacc"), looks := false }, kinds := [], alts := [], laidByText := true, laidKinds := [.data, .data, .data], laidTests := true, laidLooks := .later }
def FnTipOfUptoCardSaid : Prop := Claim7.holds Tryd.pinned (.plain (OpenSpec.upto fnTipOfSpec)) fnTipOfUptoCard

/-- THE SECOND FORM's CARD OF 'laws.FnOwedValid'. -/
def fnOwedValidUptoCard : Claim7 := { stood := { row := fnOwedValidUptoRow, standIns := [], harness := (true, "d02cb4b1ffe36576fde6c6250e797d18cf5ee742241366fa1d1a0c3f94e0dacc"), looks := false }, kinds := [], alts := [], laidByText := true, laidKinds := [.data, .data, .data], laidTests := true, laidLooks := .later }
def FnOwedValidUptoCardSaid : Prop := Claim7.holds Tryd.pinned (.plain (OpenSpec.upto fnOwedValidSpec)) fnOwedValidUptoCard

/-- THE SECOND FORM's CARD OF 'laws.FnOwedOf'. -/
def fnOwedOfUptoCard : Claim7 := { stood := { row := fnOwedOfUptoRow, standIns := [], harness := (true, "d02cb4b1ffe36576fde6c6250e797d18cf5ee742241366fa1d1a0c3f94e0dacc"), looks := false }, kinds := [], alts := [], laidByText := true, laidKinds := [.data, .data, .data], laidTests := true, laidLooks := .later }
def FnOwedOfUptoCardSaid : Prop := Claim7.holds Tryd.pinned (.plain (OpenSpec.upto fnOwedOfSpec)) fnOwedOfUptoCard

/-- THE SECOND FORM's CARD OF 'laws.FnSettleFast'. -/
def fnSettleFastUptoCard : Claim7 := { stood := { row := fnSettleFastUptoRow, standIns := [], harness := (true, "d02cb4b1ffe36576fde6c6250e797d18cf5ee742241366fa1d1a0c3f94e0dacc"), looks := false }, kinds := [], alts := [], laidByText := true, laidKinds := [.data, .data, .data], laidTests := true, laidLooks := .later }
def FnSettleFastUptoCardSaid : Prop := Claim7.holds Tryd.pinned (.plain (OpenSpec.upto fnSettleFastSpec)) fnSettleFastUptoCard

/-- THE SECOND FORM's CARD OF 'laws.FnTicketValid'. -/
def fnTicketValidUptoCard : Claim7 := { stood := { row := fnTicketValidUptoRow, standIns := [], harness := (true, "d02cb4b1ffe36576fde6c6250e797d18cf5ee742241366fa1d1a0c3f94e0dacc"), looks := false }, kinds := [], alts := [], laidByText := true, laidKinds := [.data, .data, .data, .data], laidTests := true, laidLooks := .later }
def FnTicketValidUptoCardSaid : Prop := Claim7.holds Tryd.pinned (.plain (OpenSpec.upto fnTicketValidSpec)) fnTicketValidUptoCard
end Rows
end Go.Proofs.YteocmjffjinphaaDoor
