/-
  DERIVED. GIVEN WITH THE SEED: THE CARDS: each row of YtndcanllkmfahaaDoorRows.lean that lists a variable, with what it lists TIED to the program's text (the seventh form; the later family's looks); each row that meets fmt, with fmt's text TOLD by the authors' own Lean function (tested against real Go, not proved from fmt's source: count such statements apart). THE CARD IS WHAT COUNTS. Prove the row's statement (the work); the ties are given (YtndcanllkmfahaaDoorTie.lean); close each card by the builder's one call (the guide's Derived/Test/ToyasCard.lean, 'card_holds'). Laid BY PROGRAM, IN A SANDBOX (cutbox-door.mjs). By AI agents, Wed Nov 11 2026. No macro, syntax, notation, axiom, sorry.
-/
import Derived.Test.YtndcanllkmfahaaDoorRows
import GoSem.ClaimSeven
namespace Go.Proofs.YtndcanllkmfahaaDoor
namespace Rows

/-- THE TIED CARD OF 'laws.FnTakeOk'. -/
def fnTakeOkCard : Claim7 := { stood := { row := fnTakeOkRow, standIns := [], harness := (true, "04395c9c68d5b3101b0e00b5f5fc9dab688d261019b080ef2ef888693580f509"), looks := false }, kinds := [], alts := [], laidByText := true, laidKinds := [.data, .data, .data], laidTests := true, laidLooks := .later }
def FnTakeOkCardSaid : Prop := Claim7.holds Tryd.pinned (.plain (OpenSpec.ofChange fnTakeOkSpec)) fnTakeOkCard

/-- THE TIED CARD OF 'laws.FnTakeDo'. -/
def fnTakeDoCard : Claim7 := { stood := { row := fnTakeDoRow, standIns := [], harness := (true, "04395c9c68d5b3101b0e00b5f5fc9dab688d261019b080ef2ef888693580f509"), looks := false }, kinds := [], alts := [], laidByText := true, laidKinds := [.data, .data, .data], laidTests := true, laidLooks := .later }
def FnTakeDoCardSaid : Prop := Claim7.holds Tryd.pinned (.plain (OpenSpec.ofChange fnTakeDoSpec)) fnTakeDoCard

/-- THE TIED CARD OF 'laws.FnUseOk'. -/
def fnUseOkCard : Claim7 := { stood := { row := fnUseOkRow, standIns := [], harness := (true, "04395c9c68d5b3101b0e00b5f5fc9dab688d261019b080ef2ef888693580f509"), looks := false }, kinds := [], alts := [], laidByText := true, laidKinds := [.data, .data, .data], laidTests := true, laidLooks := .later }
def FnUseOkCardSaid : Prop := Claim7.holds Tryd.pinned (.plain (OpenSpec.ofChange fnUseOkSpec)) fnUseOkCard

/-- THE TIED CARD OF 'laws.FnUseSum'. -/
def fnUseSumCard : Claim7 := { stood := { row := fnUseSumRow, standIns := [], harness := (true, "04395c9c68d5b3101b0e00b5f5fc9dab688d261019b080ef2ef888693580f509"), looks := false }, kinds := [], alts := [], laidByText := true, laidKinds := [.data, .data, .data], laidTests := true, laidLooks := .later }
def FnUseSumCardSaid : Prop := Claim7.holds Tryd.pinned (.plain (OpenSpec.ofChange fnUseSumSpec)) fnUseSumCard

/-- THE TIED CARD OF 'laws.FnUseFirst'. -/
def fnUseFirstCard : Claim7 := { stood := { row := fnUseFirstRow, standIns := [], harness := (true, "04395c9c68d5b3101b0e00b5f5fc9dab688d261019b080ef2ef888693580f509"), looks := false }, kinds := [], alts := [], laidByText := true, laidKinds := [.data, .data, .data], laidTests := true, laidLooks := .later }
def FnUseFirstCardSaid : Prop := Claim7.holds Tryd.pinned (.plain (OpenSpec.ofChange fnUseFirstSpec)) fnUseFirstCard

/-- THE TIED CARD OF 'laws.FnUseMost'. -/
def fnUseMostCard : Claim7 := { stood := { row := fnUseMostRow, standIns := [], harness := (true, "04395c9c68d5b3101b0e00b5f5fc9dab688d261019b080ef2ef888693580f509"), looks := false }, kinds := [], alts := [], laidByText := true, laidKinds := [.data, .data, .data], laidTests := true, laidLooks := .later }
def FnUseMostCardSaid : Prop := Claim7.holds Tryd.pinned (.plain (OpenSpec.ofChange fnUseMostSpec)) fnUseMostCard

/-- THE TIED CARD OF 'laws.FnSpoilLeast'. -/
def fnSpoilLeastCard : Claim7 := { stood := { row := fnSpoilLeastRow, standIns := [], harness := (true, "04395c9c68d5b3101b0e00b5f5fc9dab688d261019b080ef2ef888693580f509"), looks := false }, kinds := [], alts := [], laidByText := true, laidKinds := [.data, .data, .data], laidTests := true, laidLooks := .later }
def FnSpoilLeastCardSaid : Prop := Claim7.holds Tryd.pinned (.plain (OpenSpec.ofChange fnSpoilLeastSpec)) fnSpoilLeastCard

/-- THE TIED CARD OF 'laws.FnLackLeast'. -/
def fnLackLeastCard : Claim7 := { stood := { row := fnLackLeastRow, standIns := [], harness := (true, "04395c9c68d5b3101b0e00b5f5fc9dab688d261019b080ef2ef888693580f509"), looks := false }, kinds := [], alts := [], laidByText := true, laidKinds := [.data, .data, .data], laidTests := true, laidLooks := .later }
def FnLackLeastCardSaid : Prop := Claim7.holds Tryd.pinned (.plain (OpenSpec.ofChange fnLackLeastSpec)) fnLackLeastCard

/-- THE SECOND FORM's CARD OF 'laws.FnTakeOk'. -/
def fnTakeOkUptoCard : Claim7 := { stood := { row := fnTakeOkUptoRow, standIns := [], harness := (true, "04395c9c68d5b3101b0e00b5f5fc9dab688d261019b080ef2ef888693580f509"), looks := false }, kinds := [], alts := [], laidByText := true, laidKinds := [.data, .data, .data], laidTests := true, laidLooks := .later }
def FnTakeOkUptoCardSaid : Prop := Claim7.holds Tryd.pinned (.plain (OpenSpec.upto fnTakeOkSpec)) fnTakeOkUptoCard

/-- THE SECOND FORM's CARD OF 'laws.FnTakeDo'. -/
def fnTakeDoUptoCard : Claim7 := { stood := { row := fnTakeDoUptoRow, standIns := [], harness := (true, "04395c9c68d5b3101b0e00b5f5fc9dab688d261019b080ef2ef888693580f509"), looks := false }, kinds := [], alts := [], laidByText := true, laidKinds := [.data, .data, .data], laidTests := true, laidLooks := .later }
def FnTakeDoUptoCardSaid : Prop := Claim7.holds Tryd.pinned (.plain (OpenSpec.upto fnTakeDoSpec)) fnTakeDoUptoCard

/-- THE SECOND FORM's CARD OF 'laws.FnUseOk'. -/
def fnUseOkUptoCard : Claim7 := { stood := { row := fnUseOkUptoRow, standIns := [], harness := (true, "04395c9c68d5b3101b0e00b5f5fc9dab688d261019b080ef2ef888693580f509"), looks := false }, kinds := [], alts := [], laidByText := true, laidKinds := [.data, .data, .data], laidTests := true, laidLooks := .later }
def FnUseOkUptoCardSaid : Prop := Claim7.holds Tryd.pinned (.plain (OpenSpec.upto fnUseOkSpec)) fnUseOkUptoCard

/-- THE SECOND FORM's CARD OF 'laws.FnUseSum'. -/
def fnUseSumUptoCard : Claim7 := { stood := { row := fnUseSumUptoRow, standIns := [], harness := (true, "04395c9c68d5b3101b0e00b5f5fc9dab688d261019b080ef2ef888693580f509"), looks := false }, kinds := [], alts := [], laidByText := true, laidKinds := [.data, .data, .data], laidTests := true, laidLooks := .later }
def FnUseSumUptoCardSaid : Prop := Claim7.holds Tryd.pinned (.plain (OpenSpec.upto fnUseSumSpec)) fnUseSumUptoCard

/-- THE SECOND FORM's CARD OF 'laws.FnUseFirst'. -/
def fnUseFirstUptoCard : Claim7 := { stood := { row := fnUseFirstUptoRow, standIns := [], harness := (true, "04395c9c68d5b3101b0e00b5f5fc9dab688d261019b080ef2ef888693580f509"), looks := false }, kinds := [], alts := [], laidByText := true, laidKinds := [.data, .data, .data], laidTests := true, laidLooks := .later }
def FnUseFirstUptoCardSaid : Prop := Claim7.holds Tryd.pinned (.plain (OpenSpec.upto fnUseFirstSpec)) fnUseFirstUptoCard

/-- THE SECOND FORM's CARD OF 'laws.FnUseMost'. -/
def fnUseMostUptoCard : Claim7 := { stood := { row := fnUseMostUptoRow, standIns := [], harness := (true, "04395c9c68d5b3101b0e00b5f5fc9dab688d261019b080ef2ef888693580f509"), looks := false }, kinds := [], alts := [], laidByText := true, laidKinds := [.data, .data, .data], laidTests := true, laidLooks := .later }
def FnUseMostUptoCardSaid : Prop := Claim7.holds Tryd.pinned (.plain (OpenSpec.upto fnUseMostSpec)) fnUseMostUptoCard

/-- THE SECOND FORM's CARD OF 'laws.FnSpoilLeast'. -/
def fnSpoilLeastUptoCard : Claim7 := { stood := { row := fnSpoilLeastUptoRow, standIns := [], harness := (true, "04395c9c68d5b3101b0e00b5f5fc9dab688d261019b080ef2ef888693580f509"), looks := false }, kinds := [], alts := [], laidByText := true, laidKinds := [.data, .data, .data], laidTests := true, laidLooks := .later }
def FnSpoilLeastUptoCardSaid : Prop := Claim7.holds Tryd.pinned (.plain (OpenSpec.upto fnSpoilLeastSpec)) fnSpoilLeastUptoCard

/-- THE SECOND FORM's CARD OF 'laws.FnLackLeast'. -/
def fnLackLeastUptoCard : Claim7 := { stood := { row := fnLackLeastUptoRow, standIns := [], harness := (true, "04395c9c68d5b3101b0e00b5f5fc9dab688d261019b080ef2ef888693580f509"), looks := false }, kinds := [], alts := [], laidByText := true, laidKinds := [.data, .data, .data], laidTests := true, laidLooks := .later }
def FnLackLeastUptoCardSaid : Prop := Claim7.holds Tryd.pinned (.plain (OpenSpec.upto fnLackLeastSpec)) fnLackLeastUptoCard
end Rows
end Go.Proofs.YtndcanllkmfahaaDoor
