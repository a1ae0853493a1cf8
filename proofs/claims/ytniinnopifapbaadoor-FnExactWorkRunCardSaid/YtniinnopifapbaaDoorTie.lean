/-
  DERIVED. GIVEN WITH THE SEED: THE PROGRAM's TIES (one call each: nine closed facts by the kernel) AND EACH ROW's TIE, after the 31st guide's Derived/Test/Toyas{Tie, Card}.lean. No idea stands in it: it is a product of the set-up. Laid BY PROGRAM, IN A SANDBOX (cutbox-door.mjs). By AI agents, Wed Nov 11 2026. No macro, syntax, notation, axiom, sorry.
-/
import Derived.Test.YtniinnopifapbaaDoorRows
import Derived.LaidByTextLater
import Derived.SevenTiedAt
import Derived.LaidSub
import Derived.LaidOnce
namespace Go.Proofs.YtniinnopifapbaaDoor
open Go
set_option maxRecDepth 100000
theorem seatTie1 : Tryd.prog.laidByTextLater [("loop.example/restaurantkitchen/impl.nextState", Rows.laid_loop_example_restaurantkitchen_impl_nextState), ("loop.example/restaurantkitchen/impl.piecesLeft", Rows.laid_loop_example_restaurantkitchen_impl_piecesLeft)] [.data, .data] true :=
  Program.laidByTextLater_by_one 23 8 21 (by kernel_rfl) (by kernel_rfl) (by kernel_rfl) (by kernel_rfl) (by kernel_rfl) (by kernel_rfl) (fun _ _ => by kernel_rfl)
theorem noOwnUnsafe : Tryd.pinned.checked.prog.headLifts.contains "ownunsafe" = false := by kernel_rfl
theorem tie : Tryd.prog.laidByTextLater [("loop.example/restaurantkitchen/impl.piecesLeft", Rows.laid_loop_example_restaurantkitchen_impl_piecesLeft)] [.data] true :=
  Program.laidByTextLater.sub seatTie1 ["loop.example/restaurantkitchen/impl.piecesLeft"] (by kernel_rfl) (by kernel_rfl)
theorem fnExactTicketValid_row_tie : Rows.fnExactTicketValidRow.laidByTextAt .later Tryd.pinned [.data] true :=
  OpenClaim.laidByTextAt_later rfl rfl tie noOwnUnsafe
theorem fnExactTicketCourse_row_tie : Rows.fnExactTicketCourseRow.laidByTextAt .later Tryd.pinned [.data] true :=
  OpenClaim.laidByTextAt_later rfl rfl tie noOwnUnsafe
theorem fnExactTicketDone_row_tie : Rows.fnExactTicketDoneRow.laidByTextAt .later Tryd.pinned [.data] true :=
  OpenClaim.laidByTextAt_later rfl rfl tie noOwnUnsafe
theorem fnExactKitchenValid_row_tie : Rows.fnExactKitchenValidRow.laidByTextAt .later Tryd.pinned [.data] true :=
  OpenClaim.laidByTextAt_later rfl rfl tie noOwnUnsafe
theorem fnExactWorkLeft_row_tie : Rows.fnExactWorkLeftRow.laidByTextAt .later Tryd.pinned [.data] true :=
  OpenClaim.laidByTextAt_later rfl rfl tie noOwnUnsafe
theorem tie2 : Tryd.prog.laidByTextLater [("loop.example/restaurantkitchen/impl.nextState", Rows.laid_loop_example_restaurantkitchen_impl_nextState), ("loop.example/restaurantkitchen/impl.piecesLeft", Rows.laid_loop_example_restaurantkitchen_impl_piecesLeft)] [.data, .data] true :=
  Program.laidByTextLater.sub seatTie1 ["loop.example/restaurantkitchen/impl.nextState", "loop.example/restaurantkitchen/impl.piecesLeft"] (by kernel_rfl) (by kernel_rfl)
theorem fnExactTicketDo_row_tie : Rows.fnExactTicketDoRow.laidByTextAt .later Tryd.pinned [.data, .data] true :=
  OpenClaim.laidByTextAt_later rfl rfl tie2 noOwnUnsafe
theorem fnExactTicketMay_row_tie : Rows.fnExactTicketMayRow.laidByTextAt .later Tryd.pinned [.data, .data] true :=
  OpenClaim.laidByTextAt_later rfl rfl tie2 noOwnUnsafe
theorem fnExactNextFire_row_tie : Rows.fnExactNextFireRow.laidByTextAt .later Tryd.pinned [.data, .data] true :=
  OpenClaim.laidByTextAt_later rfl rfl tie2 noOwnUnsafe
theorem fnExactWorkStep_row_tie : Rows.fnExactWorkStepRow.laidByTextAt .later Tryd.pinned [.data, .data] true :=
  OpenClaim.laidByTextAt_later rfl rfl tie2 noOwnUnsafe
theorem fnExactWorkRun_row_tie : Rows.fnExactWorkRunRow.laidByTextAt .later Tryd.pinned [.data, .data] true :=
  OpenClaim.laidByTextAt_later rfl rfl tie2 noOwnUnsafe
theorem fnExactTicketValidUpto_row_tie : Rows.fnExactTicketValidUptoRow.laidByTextAt .later Tryd.pinned [.data] true :=
  OpenClaim.laidByTextAt_later rfl rfl tie noOwnUnsafe
theorem fnExactTicketDoUpto_row_tie : Rows.fnExactTicketDoUptoRow.laidByTextAt .later Tryd.pinned [.data, .data] true :=
  OpenClaim.laidByTextAt_later rfl rfl tie2 noOwnUnsafe
theorem fnExactTicketMayUpto_row_tie : Rows.fnExactTicketMayUptoRow.laidByTextAt .later Tryd.pinned [.data, .data] true :=
  OpenClaim.laidByTextAt_later rfl rfl tie2 noOwnUnsafe
theorem fnExactTicketCourseUpto_row_tie : Rows.fnExactTicketCourseUptoRow.laidByTextAt .later Tryd.pinned [.data] true :=
  OpenClaim.laidByTextAt_later rfl rfl tie noOwnUnsafe
theorem fnExactTicketDoneUpto_row_tie : Rows.fnExactTicketDoneUptoRow.laidByTextAt .later Tryd.pinned [.data] true :=
  OpenClaim.laidByTextAt_later rfl rfl tie noOwnUnsafe
theorem fnExactKitchenValidUpto_row_tie : Rows.fnExactKitchenValidUptoRow.laidByTextAt .later Tryd.pinned [.data] true :=
  OpenClaim.laidByTextAt_later rfl rfl tie noOwnUnsafe
theorem fnExactNextFireUpto_row_tie : Rows.fnExactNextFireUptoRow.laidByTextAt .later Tryd.pinned [.data, .data] true :=
  OpenClaim.laidByTextAt_later rfl rfl tie2 noOwnUnsafe
theorem fnExactWorkStepUpto_row_tie : Rows.fnExactWorkStepUptoRow.laidByTextAt .later Tryd.pinned [.data, .data] true :=
  OpenClaim.laidByTextAt_later rfl rfl tie2 noOwnUnsafe
theorem fnExactWorkLeftUpto_row_tie : Rows.fnExactWorkLeftUptoRow.laidByTextAt .later Tryd.pinned [.data] true :=
  OpenClaim.laidByTextAt_later rfl rfl tie noOwnUnsafe
theorem fnExactWorkRunUpto_row_tie : Rows.fnExactWorkRunUptoRow.laidByTextAt .later Tryd.pinned [.data, .data] true :=
  OpenClaim.laidByTextAt_later rfl rfl tie2 noOwnUnsafe
end Go.Proofs.YtniinnopifapbaaDoor
