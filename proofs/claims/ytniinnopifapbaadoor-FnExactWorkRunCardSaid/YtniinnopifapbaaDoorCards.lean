/-
  DERIVED. GIVEN WITH THE SEED: THE CARDS: each row of YtniinnopifapbaaDoorRows.lean that lists a variable, with what it lists TIED to the program's text (the seventh form; the later family's looks); each row that meets fmt, with fmt's text TOLD by the authors' own Lean function (tested against real Go, not proved from fmt's source: count such statements apart). THE CARD IS WHAT COUNTS. Prove the row's statement (the work); the ties are given (YtniinnopifapbaaDoorTie.lean); close each card by the builder's one call (the guide's Derived/Test/ToyasCard.lean, 'card_holds'). Laid BY PROGRAM, IN A SANDBOX (cutbox-door.mjs). By AI agents, Wed Nov 11 2026. No macro, syntax, notation, axiom, sorry.
-/
import Derived.Test.YtniinnopifapbaaDoorRows
import GoSem.ClaimSeven
namespace Go.Proofs.YtniinnopifapbaaDoor
namespace Rows

/-- THE TIED CARD OF 'laws.FnExactTicketValid'. -/
def fnExactTicketValidCard : Claim7 := { stood := { row := fnExactTicketValidRow, standIns := [], harness := (true, "1eaa6792232b63890c2c232c7fdad1794d27329ef416c0161ab79356836519ca"), looks := false }, kinds := [], alts := [], laidByText := true, laidKinds := [.data], laidTests := true, laidLooks := .later }
def FnExactTicketValidCardSaid : Prop := Claim7.holds Tryd.pinned (.plain (OpenSpec.ofChange fnExactTicketValidSpec)) fnExactTicketValidCard

/-- THE TIED CARD OF 'laws.FnExactTicketDo'. -/
def fnExactTicketDoCard : Claim7 := { stood := { row := fnExactTicketDoRow, standIns := [], harness := (true, "1eaa6792232b63890c2c232c7fdad1794d27329ef416c0161ab79356836519ca"), looks := false }, kinds := [], alts := [], laidByText := true, laidKinds := [.data, .data], laidTests := true, laidLooks := .later }
def FnExactTicketDoCardSaid : Prop := Claim7.holds Tryd.pinned (.plain (OpenSpec.ofChange fnExactTicketDoSpec)) fnExactTicketDoCard

/-- THE TIED CARD OF 'laws.FnExactTicketMay'. -/
def fnExactTicketMayCard : Claim7 := { stood := { row := fnExactTicketMayRow, standIns := [], harness := (true, "1eaa6792232b63890c2c232c7fdad1794d27329ef416c0161ab79356836519ca"), looks := false }, kinds := [], alts := [], laidByText := true, laidKinds := [.data, .data], laidTests := true, laidLooks := .later }
def FnExactTicketMayCardSaid : Prop := Claim7.holds Tryd.pinned (.plain (OpenSpec.ofChange fnExactTicketMaySpec)) fnExactTicketMayCard

/-- THE TIED CARD OF 'laws.FnExactTicketCourse'. -/
def fnExactTicketCourseCard : Claim7 := { stood := { row := fnExactTicketCourseRow, standIns := [], harness := (true, "1eaa6792232b63890c2c232c7fdad1794d27329ef416c0161ab79356836519ca"), looks := false }, kinds := [], alts := [], laidByText := true, laidKinds := [.data], laidTests := true, laidLooks := .later }
def FnExactTicketCourseCardSaid : Prop := Claim7.holds Tryd.pinned (.plain (OpenSpec.ofChange fnExactTicketCourseSpec)) fnExactTicketCourseCard

/-- THE TIED CARD OF 'laws.FnExactTicketDone'. -/
def fnExactTicketDoneCard : Claim7 := { stood := { row := fnExactTicketDoneRow, standIns := [], harness := (true, "1eaa6792232b63890c2c232c7fdad1794d27329ef416c0161ab79356836519ca"), looks := false }, kinds := [], alts := [], laidByText := true, laidKinds := [.data], laidTests := true, laidLooks := .later }
def FnExactTicketDoneCardSaid : Prop := Claim7.holds Tryd.pinned (.plain (OpenSpec.ofChange fnExactTicketDoneSpec)) fnExactTicketDoneCard

/-- THE TIED CARD OF 'laws.FnExactKitchenValid'. -/
def fnExactKitchenValidCard : Claim7 := { stood := { row := fnExactKitchenValidRow, standIns := [], harness := (true, "1eaa6792232b63890c2c232c7fdad1794d27329ef416c0161ab79356836519ca"), looks := false }, kinds := [], alts := [], laidByText := true, laidKinds := [.data], laidTests := true, laidLooks := .later }
def FnExactKitchenValidCardSaid : Prop := Claim7.holds Tryd.pinned (.plain (OpenSpec.ofChange fnExactKitchenValidSpec)) fnExactKitchenValidCard

/-- THE TIED CARD OF 'laws.FnExactNextFire'. -/
def fnExactNextFireCard : Claim7 := { stood := { row := fnExactNextFireRow, standIns := [], harness := (true, "1eaa6792232b63890c2c232c7fdad1794d27329ef416c0161ab79356836519ca"), looks := false }, kinds := [], alts := [], laidByText := true, laidKinds := [.data, .data], laidTests := true, laidLooks := .later }
def FnExactNextFireCardSaid : Prop := Claim7.holds Tryd.pinned (.plain (OpenSpec.ofChange fnExactNextFireSpec)) fnExactNextFireCard

/-- THE TIED CARD OF 'laws.FnExactWorkStep'. -/
def fnExactWorkStepCard : Claim7 := { stood := { row := fnExactWorkStepRow, standIns := [], harness := (true, "1eaa6792232b63890c2c232c7fdad1794d27329ef416c0161ab79356836519ca"), looks := false }, kinds := [], alts := [], laidByText := true, laidKinds := [.data, .data], laidTests := true, laidLooks := .later }
def FnExactWorkStepCardSaid : Prop := Claim7.holds Tryd.pinned (.plain (OpenSpec.ofChange fnExactWorkStepSpec)) fnExactWorkStepCard

/-- THE TIED CARD OF 'laws.FnExactWorkLeft'. -/
def fnExactWorkLeftCard : Claim7 := { stood := { row := fnExactWorkLeftRow, standIns := [], harness := (true, "1eaa6792232b63890c2c232c7fdad1794d27329ef416c0161ab79356836519ca"), looks := false }, kinds := [], alts := [], laidByText := true, laidKinds := [.data], laidTests := true, laidLooks := .later }
def FnExactWorkLeftCardSaid : Prop := Claim7.holds Tryd.pinned (.plain (OpenSpec.ofChange fnExactWorkLeftSpec)) fnExactWorkLeftCard

/-- THE TIED CARD OF 'laws.FnExactWorkRun'. -/
def fnExactWorkRunCard : Claim7 := { stood := { row := fnExactWorkRunRow, standIns := [], harness := (true, "1eaa6792232b63890c2c232c7fdad1794d27329ef416c0161ab79356836519ca"), looks := false }, kinds := [], alts := [], laidByText := true, laidKinds := [.data, .data], laidTests := true, laidLooks := .later }
def FnExactWorkRunCardSaid : Prop := Claim7.holds Tryd.pinned (.plain (OpenSpec.ofChange fnExactWorkRunSpec)) fnExactWorkRunCard

/-- THE SECOND FORM's CARD OF 'laws.FnExactTicketValid'. -/
def fnExactTicketValidUptoCard : Claim7 := { stood := { row := fnExactTicketValidUptoRow, standIns := [], harness := (true, "1eaa6792232b63890c2c232c7fdad1794d27329ef416c0161ab79356836519ca"), looks := false }, kinds := [], alts := [], laidByText := true, laidKinds := [.data], laidTests := true, laidLooks := .later }
def FnExactTicketValidUptoCardSaid : Prop := Claim7.holds Tryd.pinned (.plain (OpenSpec.upto fnExactTicketValidSpec)) fnExactTicketValidUptoCard

/-- THE SECOND FORM's CARD OF 'laws.FnExactTicketDo'. -/
def fnExactTicketDoUptoCard : Claim7 := { stood := { row := fnExactTicketDoUptoRow, standIns := [], harness := (true, "1eaa6792232b63890c2c232c7fdad1794d27329ef416c0161ab79356836519ca"), looks := false }, kinds := [], alts := [], laidByText := true, laidKinds := [.data, .data], laidTests := true, laidLooks := .later }
def FnExactTicketDoUptoCardSaid : Prop := Claim7.holds Tryd.pinned (.plain (OpenSpec.upto fnExactTicketDoSpec)) fnExactTicketDoUptoCard

/-- THE SECOND FORM's CARD OF 'laws.FnExactTicketMay'. -/
def fnExactTicketMayUptoCard : Claim7 := { stood := { row := fnExactTicketMayUptoRow, standIns := [], harness := (true, "1eaa6792232b63890c2c232c7fdad1794d27329ef416c0161ab79356836519ca"), looks := false }, kinds := [], alts := [], laidByText := true, laidKinds := [.data, .data], laidTests := true, laidLooks := .later }
def FnExactTicketMayUptoCardSaid : Prop := Claim7.holds Tryd.pinned (.plain (OpenSpec.upto fnExactTicketMaySpec)) fnExactTicketMayUptoCard

/-- THE SECOND FORM's CARD OF 'laws.FnExactTicketCourse'. -/
def fnExactTicketCourseUptoCard : Claim7 := { stood := { row := fnExactTicketCourseUptoRow, standIns := [], harness := (true, "1eaa6792232b63890c2c232c7fdad1794d27329ef416c0161ab79356836519ca"), looks := false }, kinds := [], alts := [], laidByText := true, laidKinds := [.data], laidTests := true, laidLooks := .later }
def FnExactTicketCourseUptoCardSaid : Prop := Claim7.holds Tryd.pinned (.plain (OpenSpec.upto fnExactTicketCourseSpec)) fnExactTicketCourseUptoCard

/-- THE SECOND FORM's CARD OF 'laws.FnExactTicketDone'. -/
def fnExactTicketDoneUptoCard : Claim7 := { stood := { row := fnExactTicketDoneUptoRow, standIns := [], harness := (true, "1eaa6792232b63890c2c232c7fdad1794d27329ef416c0161ab79356836519ca"), looks := false }, kinds := [], alts := [], laidByText := true, laidKinds := [.data], laidTests := true, laidLooks := .later }
def FnExactTicketDoneUptoCardSaid : Prop := Claim7.holds Tryd.pinned (.plain (OpenSpec.upto fnExactTicketDoneSpec)) fnExactTicketDoneUptoCard

/-- THE SECOND FORM's CARD OF 'laws.FnExactKitchenValid'. -/
def fnExactKitchenValidUptoCard : Claim7 := { stood := { row := fnExactKitchenValidUptoRow, standIns := [], harness := (true, "1eaa6792232b63890c2c232c7fdad1794d27329ef416c0161ab79356836519ca"), looks := false }, kinds := [], alts := [], laidByText := true, laidKinds := [.data], laidTests := true, laidLooks := .later }
def FnExactKitchenValidUptoCardSaid : Prop := Claim7.holds Tryd.pinned (.plain (OpenSpec.upto fnExactKitchenValidSpec)) fnExactKitchenValidUptoCard

/-- THE SECOND FORM's CARD OF 'laws.FnExactNextFire'. -/
def fnExactNextFireUptoCard : Claim7 := { stood := { row := fnExactNextFireUptoRow, standIns := [], harness := (true, "1eaa6792232b63890c2c232c7fdad1794d27329ef416c0161ab79356836519ca"), looks := false }, kinds := [], alts := [], laidByText := true, laidKinds := [.data, .data], laidTests := true, laidLooks := .later }
def FnExactNextFireUptoCardSaid : Prop := Claim7.holds Tryd.pinned (.plain (OpenSpec.upto fnExactNextFireSpec)) fnExactNextFireUptoCard

/-- THE SECOND FORM's CARD OF 'laws.FnExactWorkStep'. -/
def fnExactWorkStepUptoCard : Claim7 := { stood := { row := fnExactWorkStepUptoRow, standIns := [], harness := (true, "1eaa6792232b63890c2c232c7fdad1794d27329ef416c0161ab79356836519ca"), looks := false }, kinds := [], alts := [], laidByText := true, laidKinds := [.data, .data], laidTests := true, laidLooks := .later }
def FnExactWorkStepUptoCardSaid : Prop := Claim7.holds Tryd.pinned (.plain (OpenSpec.upto fnExactWorkStepSpec)) fnExactWorkStepUptoCard

/-- THE SECOND FORM's CARD OF 'laws.FnExactWorkLeft'. -/
def fnExactWorkLeftUptoCard : Claim7 := { stood := { row := fnExactWorkLeftUptoRow, standIns := [], harness := (true, "1eaa6792232b63890c2c232c7fdad1794d27329ef416c0161ab79356836519ca"), looks := false }, kinds := [], alts := [], laidByText := true, laidKinds := [.data], laidTests := true, laidLooks := .later }
def FnExactWorkLeftUptoCardSaid : Prop := Claim7.holds Tryd.pinned (.plain (OpenSpec.upto fnExactWorkLeftSpec)) fnExactWorkLeftUptoCard

/-- THE SECOND FORM's CARD OF 'laws.FnExactWorkRun'. -/
def fnExactWorkRunUptoCard : Claim7 := { stood := { row := fnExactWorkRunUptoRow, standIns := [], harness := (true, "1eaa6792232b63890c2c232c7fdad1794d27329ef416c0161ab79356836519ca"), looks := false }, kinds := [], alts := [], laidByText := true, laidKinds := [.data, .data], laidTests := true, laidLooks := .later }
def FnExactWorkRunUptoCardSaid : Prop := Claim7.holds Tryd.pinned (.plain (OpenSpec.upto fnExactWorkRunSpec)) fnExactWorkRunUptoCard
end Rows
end Go.Proofs.YtniinnopifapbaaDoor
