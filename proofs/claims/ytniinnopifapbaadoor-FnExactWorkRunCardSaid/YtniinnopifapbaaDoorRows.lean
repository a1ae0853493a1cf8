/-
  NARROWER THAN 'FOR EVERY INPUT', by the rows' own cells (each row's printed sentence says how): FnExactTicketValid: laid · FnExactTicketDo: laid · FnExactTicketMay: laid · FnExactTicketCourse: laid · FnExactTicketDone: laid · FnExactKitchenValid: laid · FnExactNextFire: laid · FnExactWorkStep: laid · FnExactWorkLeft: laid · FnExactWorkRun: laid.
  DERIVED. THE GIVEN ROWS OF THIS SEAT. 10 by the template 'for every input the law returns true; each argument reads behind the call as it read before'; 0 by the template 'total and deterministic' (their statements: YtniinnopifapbaaDoorTotals.lean).
  GIVEN WITH THE SEED: the statements are not yours to turn. If you find one false, say at which input.
  Laid BY PROGRAM, IN A SANDBOX (cutbox-rows.mjs): the forced cells as the released guide's own fill.sh prints them over the translation 34150ea16bafccba… (all of the seat's roots in one cut). By AI agents, Wed Nov 11 2026. No macro, syntax, notation, axiom, sorry.
-/
import Derived.Test.YtniinnopifapbaaDoorChecked
import GoSem.Claim
import GoSem.ClaimJoined
import GoSem.ClaimMapViews
import Derived.JoinedTies
import Derived.KernelRfl
namespace Go.Proofs.YtniinnopifapbaaDoor
/- THE CELL 'sum', in the pinned program and in every row, IS THE sha256 OF THE DUMP (.gsa) THAT YtniinnopifapbaaDoorProg.lean LOADS. Nothing in Lean hashes anything: it is a label: what it is worth is what the hold of that sum in a sandbox is worth. -/
noncomputable def Tryd.pinned : Pinned := { name := "ytniinnopifapbaadoor", sum := "34150ea16bafccba3e1d6e8523b300b2e1700bc8af1bd31f59ed58db5e253b7b", checked := Tryd.checked }
namespace Rows
def none {H : Type} : Left H := { results := [], args := [] }

/- WHAT THE LISTED PACKAGE-LEVEL VARIABLES READ AS WHEN THE CALL BEGINS. Each datum BY PROGRAM (the guide's laid-datum.mjs) off the statement by which the dump's own 'gosem.cut.vars' lays the variable. In a bare row this is a premise. The card (YtniinnopifapbaaDoorCards.lean) ties it to the program's text. -/
def laid_loop_example_restaurantkitchen_impl_piecesLeft {H : Type} : DataW H := .agg [.lit (.int .i64 3), .lit (.int .i64 2), .lit (.int .i64 1), .lit (.int .i64 0), .lit (.int .i64 0)]
def laid_loop_example_restaurantkitchen_impl_nextState {H : Type} : DataW H := .agg [.agg [.lit (.int .i64 1), .lit (.int .i64 0), .lit (.int .i64 0), .lit (.int .i64 0), .lit (.int .i64 0)], .agg [.lit (.int .i64 0), .lit (.int .i64 2), .lit (.int .i64 0), .lit (.int .i64 0), .lit (.int .i64 0)], .agg [.lit (.int .i64 0), .lit (.int .i64 0), .lit (.int .i64 3), .lit (.int .i64 0), .lit (.int .i64 0)], .agg [.lit (.int .i64 4), .lit (.int .i64 4), .lit (.int .i64 4), .lit (.int .i64 0), .lit (.int .i64 0)]]

/-- 'laws.FnExactTicketValid': WHATEVER THE INPUT: true; the input reads as it did. -/
def fnExactTicketValidSpec : ChangeSpec := { name := "fnExactTicketValid", vars := ["loop.example/restaurantkitchen/impl.piecesLeft"], fn := fun _ => fun
  | [d, g1] => { results := [.lit (.bool true)], args := [d], vars := [g1] }
  | _ => none }
def fnExactTicketValidRow : OpenClaim := { program := "ytniinnopifapbaadoor", sum := "34150ea16bafccba3e1d6e8523b300b2e1700bc8af1bd31f59ed58db5e253b7b", func := "loop.example/restaurantkitchen/laws.FnExactTicketValid", spec := "fnExactTicketValid", named := ["loop.example/restaurantkitchen/impl.piecesLeft"], apart := false, laid := [("loop.example/restaurantkitchen/impl.piecesLeft", laid_loop_example_restaurantkitchen_impl_piecesLeft)] }
def FnExactTicketValidSaid : Prop := fnExactTicketValidRow.holds Tryd.pinned (OpenSpec.ofChange fnExactTicketValidSpec)

/-- ITS FALSE NEIGHBOUR: 'it returns false'. Refute it at one input. -/
def fnExactTicketValidWrong : ChangeSpec := { name := "fnExactTicketValid", vars := ["loop.example/restaurantkitchen/impl.piecesLeft"], fn := fun _ => fun
  | [d, g1] => { results := [.lit (.bool false)], args := [d], vars := [g1] }
  | _ => none }
def FnExactTicketValidWrongFalsely : Prop := fnExactTicketValidRow.holds Tryd.pinned (OpenSpec.ofChange fnExactTicketValidWrong)

/-- 'laws.FnExactTicketDo': WHATEVER THE INPUT: true; the input reads as it did. -/
def fnExactTicketDoSpec : ChangeSpec := { name := "fnExactTicketDo", vars := ["loop.example/restaurantkitchen/impl.nextState", "loop.example/restaurantkitchen/impl.piecesLeft"], fn := fun _ => fun
  | [d1, d2, d3, g1, g2] => { results := [.lit (.bool true)], args := [d1, d2, d3], vars := [g1, g2] }
  | _ => none }
def fnExactTicketDoRow : OpenClaim := { program := "ytniinnopifapbaadoor", sum := "34150ea16bafccba3e1d6e8523b300b2e1700bc8af1bd31f59ed58db5e253b7b", func := "loop.example/restaurantkitchen/laws.FnExactTicketDo", spec := "fnExactTicketDo", named := ["loop.example/restaurantkitchen/impl.nextState", "loop.example/restaurantkitchen/impl.piecesLeft"], apart := false, laid := [("loop.example/restaurantkitchen/impl.nextState", laid_loop_example_restaurantkitchen_impl_nextState), ("loop.example/restaurantkitchen/impl.piecesLeft", laid_loop_example_restaurantkitchen_impl_piecesLeft)] }
def FnExactTicketDoSaid : Prop := fnExactTicketDoRow.holds Tryd.pinned (OpenSpec.ofChange fnExactTicketDoSpec)

/-- ITS FALSE NEIGHBOUR: 'it returns false'. Refute it at one input. -/
def fnExactTicketDoWrong : ChangeSpec := { name := "fnExactTicketDo", vars := ["loop.example/restaurantkitchen/impl.nextState", "loop.example/restaurantkitchen/impl.piecesLeft"], fn := fun _ => fun
  | [d1, d2, d3, g1, g2] => { results := [.lit (.bool false)], args := [d1, d2, d3], vars := [g1, g2] }
  | _ => none }
def FnExactTicketDoWrongFalsely : Prop := fnExactTicketDoRow.holds Tryd.pinned (OpenSpec.ofChange fnExactTicketDoWrong)

/-- 'laws.FnExactTicketMay': WHATEVER THE INPUT: true; the input reads as it did. -/
def fnExactTicketMaySpec : ChangeSpec := { name := "fnExactTicketMay", vars := ["loop.example/restaurantkitchen/impl.nextState", "loop.example/restaurantkitchen/impl.piecesLeft"], fn := fun _ => fun
  | [d, g1, g2] => { results := [.lit (.bool true)], args := [d], vars := [g1, g2] }
  | _ => none }
def fnExactTicketMayRow : OpenClaim := { program := "ytniinnopifapbaadoor", sum := "34150ea16bafccba3e1d6e8523b300b2e1700bc8af1bd31f59ed58db5e253b7b", func := "loop.example/restaurantkitchen/laws.FnExactTicketMay", spec := "fnExactTicketMay", named := ["loop.example/restaurantkitchen/impl.nextState", "loop.example/restaurantkitchen/impl.piecesLeft"], apart := false, laid := [("loop.example/restaurantkitchen/impl.nextState", laid_loop_example_restaurantkitchen_impl_nextState), ("loop.example/restaurantkitchen/impl.piecesLeft", laid_loop_example_restaurantkitchen_impl_piecesLeft)] }
def FnExactTicketMaySaid : Prop := fnExactTicketMayRow.holds Tryd.pinned (OpenSpec.ofChange fnExactTicketMaySpec)

/-- ITS FALSE NEIGHBOUR: 'it returns false'. Refute it at one input. -/
def fnExactTicketMayWrong : ChangeSpec := { name := "fnExactTicketMay", vars := ["loop.example/restaurantkitchen/impl.nextState", "loop.example/restaurantkitchen/impl.piecesLeft"], fn := fun _ => fun
  | [d, g1, g2] => { results := [.lit (.bool false)], args := [d], vars := [g1, g2] }
  | _ => none }
def FnExactTicketMayWrongFalsely : Prop := fnExactTicketMayRow.holds Tryd.pinned (OpenSpec.ofChange fnExactTicketMayWrong)

/-- 'laws.FnExactTicketCourse': WHATEVER THE INPUT: true; the input reads as it did. -/
def fnExactTicketCourseSpec : ChangeSpec := { name := "fnExactTicketCourse", vars := ["loop.example/restaurantkitchen/impl.piecesLeft"], fn := fun _ => fun
  | [d, g1] => { results := [.lit (.bool true)], args := [d], vars := [g1] }
  | _ => none }
def fnExactTicketCourseRow : OpenClaim := { program := "ytniinnopifapbaadoor", sum := "34150ea16bafccba3e1d6e8523b300b2e1700bc8af1bd31f59ed58db5e253b7b", func := "loop.example/restaurantkitchen/laws.FnExactTicketCourse", spec := "fnExactTicketCourse", named := ["loop.example/restaurantkitchen/impl.piecesLeft"], apart := false, laid := [("loop.example/restaurantkitchen/impl.piecesLeft", laid_loop_example_restaurantkitchen_impl_piecesLeft)] }
def FnExactTicketCourseSaid : Prop := fnExactTicketCourseRow.holds Tryd.pinned (OpenSpec.ofChange fnExactTicketCourseSpec)

/-- ITS FALSE NEIGHBOUR: 'it returns false'. Refute it at one input. -/
def fnExactTicketCourseWrong : ChangeSpec := { name := "fnExactTicketCourse", vars := ["loop.example/restaurantkitchen/impl.piecesLeft"], fn := fun _ => fun
  | [d, g1] => { results := [.lit (.bool false)], args := [d], vars := [g1] }
  | _ => none }
def FnExactTicketCourseWrongFalsely : Prop := fnExactTicketCourseRow.holds Tryd.pinned (OpenSpec.ofChange fnExactTicketCourseWrong)

/-- 'laws.FnExactTicketDone': WHATEVER THE INPUT: true; the input reads as it did. -/
def fnExactTicketDoneSpec : ChangeSpec := { name := "fnExactTicketDone", vars := ["loop.example/restaurantkitchen/impl.piecesLeft"], fn := fun _ => fun
  | [d, g1] => { results := [.lit (.bool true)], args := [d], vars := [g1] }
  | _ => none }
def fnExactTicketDoneRow : OpenClaim := { program := "ytniinnopifapbaadoor", sum := "34150ea16bafccba3e1d6e8523b300b2e1700bc8af1bd31f59ed58db5e253b7b", func := "loop.example/restaurantkitchen/laws.FnExactTicketDone", spec := "fnExactTicketDone", named := ["loop.example/restaurantkitchen/impl.piecesLeft"], apart := false, laid := [("loop.example/restaurantkitchen/impl.piecesLeft", laid_loop_example_restaurantkitchen_impl_piecesLeft)] }
def FnExactTicketDoneSaid : Prop := fnExactTicketDoneRow.holds Tryd.pinned (OpenSpec.ofChange fnExactTicketDoneSpec)

/-- ITS FALSE NEIGHBOUR: 'it returns false'. Refute it at one input. -/
def fnExactTicketDoneWrong : ChangeSpec := { name := "fnExactTicketDone", vars := ["loop.example/restaurantkitchen/impl.piecesLeft"], fn := fun _ => fun
  | [d, g1] => { results := [.lit (.bool false)], args := [d], vars := [g1] }
  | _ => none }
def FnExactTicketDoneWrongFalsely : Prop := fnExactTicketDoneRow.holds Tryd.pinned (OpenSpec.ofChange fnExactTicketDoneWrong)

/-- 'laws.FnExactKitchenValid': WHATEVER THE INPUT: true; the input reads as it did. -/
def fnExactKitchenValidSpec : ChangeSpec := { name := "fnExactKitchenValid", vars := ["loop.example/restaurantkitchen/impl.piecesLeft"], fn := fun _ => fun
  | [d, g1] => { results := [.lit (.bool true)], args := [d], vars := [g1] }
  | _ => none }
def fnExactKitchenValidRow : OpenClaim := { program := "ytniinnopifapbaadoor", sum := "34150ea16bafccba3e1d6e8523b300b2e1700bc8af1bd31f59ed58db5e253b7b", func := "loop.example/restaurantkitchen/laws.FnExactKitchenValid", spec := "fnExactKitchenValid", named := ["loop.example/restaurantkitchen/impl.piecesLeft"], apart := false, laid := [("loop.example/restaurantkitchen/impl.piecesLeft", laid_loop_example_restaurantkitchen_impl_piecesLeft)] }
def FnExactKitchenValidSaid : Prop := fnExactKitchenValidRow.holds Tryd.pinned (OpenSpec.ofChange fnExactKitchenValidSpec)

/-- ITS FALSE NEIGHBOUR: 'it returns false'. Refute it at one input. -/
def fnExactKitchenValidWrong : ChangeSpec := { name := "fnExactKitchenValid", vars := ["loop.example/restaurantkitchen/impl.piecesLeft"], fn := fun _ => fun
  | [d, g1] => { results := [.lit (.bool false)], args := [d], vars := [g1] }
  | _ => none }
def FnExactKitchenValidWrongFalsely : Prop := fnExactKitchenValidRow.holds Tryd.pinned (OpenSpec.ofChange fnExactKitchenValidWrong)

/-- 'laws.FnExactNextFire': WHATEVER THE INPUT: true; the input reads as it did. -/
def fnExactNextFireSpec : ChangeSpec := { name := "fnExactNextFire", vars := ["loop.example/restaurantkitchen/impl.piecesLeft", "loop.example/restaurantkitchen/impl.nextState"], fn := fun _ => fun
  | [d, g1, g2] => { results := [.lit (.bool true)], args := [d], vars := [g1, g2] }
  | _ => none }
def fnExactNextFireRow : OpenClaim := { program := "ytniinnopifapbaadoor", sum := "34150ea16bafccba3e1d6e8523b300b2e1700bc8af1bd31f59ed58db5e253b7b", func := "loop.example/restaurantkitchen/laws.FnExactNextFire", spec := "fnExactNextFire", named := ["loop.example/restaurantkitchen/impl.piecesLeft", "loop.example/restaurantkitchen/impl.nextState"], apart := false, laid := [("loop.example/restaurantkitchen/impl.nextState", laid_loop_example_restaurantkitchen_impl_nextState), ("loop.example/restaurantkitchen/impl.piecesLeft", laid_loop_example_restaurantkitchen_impl_piecesLeft)] }
def FnExactNextFireSaid : Prop := fnExactNextFireRow.holds Tryd.pinned (OpenSpec.ofChange fnExactNextFireSpec)

/-- ITS FALSE NEIGHBOUR: 'it returns false'. Refute it at one input. -/
def fnExactNextFireWrong : ChangeSpec := { name := "fnExactNextFire", vars := ["loop.example/restaurantkitchen/impl.piecesLeft", "loop.example/restaurantkitchen/impl.nextState"], fn := fun _ => fun
  | [d, g1, g2] => { results := [.lit (.bool false)], args := [d], vars := [g1, g2] }
  | _ => none }
def FnExactNextFireWrongFalsely : Prop := fnExactNextFireRow.holds Tryd.pinned (OpenSpec.ofChange fnExactNextFireWrong)

/-- 'laws.FnExactWorkStep': WHATEVER THE INPUT: true; the input reads as it did. -/
def fnExactWorkStepSpec : ChangeSpec := { name := "fnExactWorkStep", vars := ["loop.example/restaurantkitchen/impl.nextState", "loop.example/restaurantkitchen/impl.piecesLeft"], fn := fun _ => fun
  | [d, g1, g2] => { results := [.lit (.bool true)], args := [d], vars := [g1, g2] }
  | _ => none }
def fnExactWorkStepRow : OpenClaim := { program := "ytniinnopifapbaadoor", sum := "34150ea16bafccba3e1d6e8523b300b2e1700bc8af1bd31f59ed58db5e253b7b", func := "loop.example/restaurantkitchen/laws.FnExactWorkStep", spec := "fnExactWorkStep", named := ["loop.example/restaurantkitchen/impl.nextState", "loop.example/restaurantkitchen/impl.piecesLeft"], apart := false, laid := [("loop.example/restaurantkitchen/impl.nextState", laid_loop_example_restaurantkitchen_impl_nextState), ("loop.example/restaurantkitchen/impl.piecesLeft", laid_loop_example_restaurantkitchen_impl_piecesLeft)] }
def FnExactWorkStepSaid : Prop := fnExactWorkStepRow.holds Tryd.pinned (OpenSpec.ofChange fnExactWorkStepSpec)

/-- ITS FALSE NEIGHBOUR: 'it returns false'. Refute it at one input. -/
def fnExactWorkStepWrong : ChangeSpec := { name := "fnExactWorkStep", vars := ["loop.example/restaurantkitchen/impl.nextState", "loop.example/restaurantkitchen/impl.piecesLeft"], fn := fun _ => fun
  | [d, g1, g2] => { results := [.lit (.bool false)], args := [d], vars := [g1, g2] }
  | _ => none }
def FnExactWorkStepWrongFalsely : Prop := fnExactWorkStepRow.holds Tryd.pinned (OpenSpec.ofChange fnExactWorkStepWrong)

/-- 'laws.FnExactWorkLeft': WHATEVER THE INPUT: true; the input reads as it did. -/
def fnExactWorkLeftSpec : ChangeSpec := { name := "fnExactWorkLeft", vars := ["loop.example/restaurantkitchen/impl.piecesLeft"], fn := fun _ => fun
  | [d, g1] => { results := [.lit (.bool true)], args := [d], vars := [g1] }
  | _ => none }
def fnExactWorkLeftRow : OpenClaim := { program := "ytniinnopifapbaadoor", sum := "34150ea16bafccba3e1d6e8523b300b2e1700bc8af1bd31f59ed58db5e253b7b", func := "loop.example/restaurantkitchen/laws.FnExactWorkLeft", spec := "fnExactWorkLeft", named := ["loop.example/restaurantkitchen/impl.piecesLeft"], apart := false, laid := [("loop.example/restaurantkitchen/impl.piecesLeft", laid_loop_example_restaurantkitchen_impl_piecesLeft)] }
def FnExactWorkLeftSaid : Prop := fnExactWorkLeftRow.holds Tryd.pinned (OpenSpec.ofChange fnExactWorkLeftSpec)

/-- ITS FALSE NEIGHBOUR: 'it returns false'. Refute it at one input. -/
def fnExactWorkLeftWrong : ChangeSpec := { name := "fnExactWorkLeft", vars := ["loop.example/restaurantkitchen/impl.piecesLeft"], fn := fun _ => fun
  | [d, g1] => { results := [.lit (.bool false)], args := [d], vars := [g1] }
  | _ => none }
def FnExactWorkLeftWrongFalsely : Prop := fnExactWorkLeftRow.holds Tryd.pinned (OpenSpec.ofChange fnExactWorkLeftWrong)

/-- 'laws.FnExactWorkRun': WHATEVER THE INPUT: true; the input reads as it did. -/
def fnExactWorkRunSpec : ChangeSpec := { name := "fnExactWorkRun", vars := ["loop.example/restaurantkitchen/impl.piecesLeft", "loop.example/restaurantkitchen/impl.nextState"], fn := fun _ => fun
  | [d1, d2, g1, g2] => { results := [.lit (.bool true)], args := [d1, d2], vars := [g1, g2] }
  | _ => none }
def fnExactWorkRunRow : OpenClaim := { program := "ytniinnopifapbaadoor", sum := "34150ea16bafccba3e1d6e8523b300b2e1700bc8af1bd31f59ed58db5e253b7b", func := "loop.example/restaurantkitchen/laws.FnExactWorkRun", spec := "fnExactWorkRun", named := ["loop.example/restaurantkitchen/impl.piecesLeft", "loop.example/restaurantkitchen/impl.nextState"], apart := false, laid := [("loop.example/restaurantkitchen/impl.nextState", laid_loop_example_restaurantkitchen_impl_nextState), ("loop.example/restaurantkitchen/impl.piecesLeft", laid_loop_example_restaurantkitchen_impl_piecesLeft)] }
def FnExactWorkRunSaid : Prop := fnExactWorkRunRow.holds Tryd.pinned (OpenSpec.ofChange fnExactWorkRunSpec)

/-- ITS FALSE NEIGHBOUR: 'it returns false'. Refute it at one input. -/
def fnExactWorkRunWrong : ChangeSpec := { name := "fnExactWorkRun", vars := ["loop.example/restaurantkitchen/impl.piecesLeft", "loop.example/restaurantkitchen/impl.nextState"], fn := fun _ => fun
  | [d1, d2, g1, g2] => { results := [.lit (.bool false)], args := [d1, d2], vars := [g1, g2] }
  | _ => none }
def FnExactWorkRunWrongFalsely : Prop := fnExactWorkRunRow.holds Tryd.pinned (OpenSpec.ofChange fnExactWorkRunWrong)

/- THE SECOND FORM. 'bulk': how many values and letters a reading holds, each counted each time it is reached (what is shared counts as often as it is met; a slice's spare places count too). A statement '..UptoSaid' is the law's where the arguments, and the package variables that the reading takes, are together of bulk at most 1048576: NARROWER than '..Said'. Prove '..Said' where nothing that the law and all that it calls make is longer than what came in: it says more and counts as full. Else prove '..UptoSaid'. A law counts once. -/
mutual
def uptoBulk {H : Type} : DataW H → Nat
  | .lit (.string bytes) => bytes.length + 1
  | .lit _ => 1
  | .nil => 1
  | .ptr d => uptoBulk d + 1
  | .slice elems spare => uptoBulkAll elems + uptoBulkAll spare + 1
  | .agg parts => uptoBulkAll parts + 1
  | .iface _ d => uptoBulk d + 1
  | .map entries => uptoBulkEntries entries + 1
  | .held _ => 1
def uptoBulkAll {H : Type} : List (DataW H) → Nat
  | [] => 0
  | d :: r => uptoBulk d + uptoBulkAll r
def uptoBulkEntries {H : Type} : List (Lit × DataW H) → Nat
  | [] => 0
  | x :: r => uptoBulkEntry x + uptoBulkEntries r
def uptoBulkEntry {H : Type} : Lit × DataW H → Nat
  | (.string bytes, d) => bytes.length + uptoBulk d + 1
  | (_, d) => uptoBulk d + 1
 end
def uptoSmall : (H : Type) → List (DataW H) → Bool := fun _ ds => decide (uptoBulkAll ds ≤ 1048576)
def OpenSpec.upto (s : _root_.Go.ChangeSpec) : _root_.Go.OpenSpec := { _root_.Go.OpenSpec.ofChange s with cond := some uptoSmall }

/-- 'laws.FnExactTicketValid', WHERE WHAT IT READS IS OF BULK AT MOST 1048576: true; the input reads as it did. -/
def fnExactTicketValidUptoRow : OpenClaim := { program := "ytniinnopifapbaadoor", sum := "34150ea16bafccba3e1d6e8523b300b2e1700bc8af1bd31f59ed58db5e253b7b", func := "loop.example/restaurantkitchen/laws.FnExactTicketValid", spec := "fnExactTicketValid", named := ["loop.example/restaurantkitchen/impl.piecesLeft"], apart := false, laid := [("loop.example/restaurantkitchen/impl.piecesLeft", laid_loop_example_restaurantkitchen_impl_piecesLeft)], narrowed := true }
def FnExactTicketValidUptoSaid : Prop := fnExactTicketValidUptoRow.holds Tryd.pinned (OpenSpec.upto fnExactTicketValidSpec)

/-- 'laws.FnExactTicketDo', WHERE WHAT IT READS IS OF BULK AT MOST 1048576: true; the input reads as it did. -/
def fnExactTicketDoUptoRow : OpenClaim := { program := "ytniinnopifapbaadoor", sum := "34150ea16bafccba3e1d6e8523b300b2e1700bc8af1bd31f59ed58db5e253b7b", func := "loop.example/restaurantkitchen/laws.FnExactTicketDo", spec := "fnExactTicketDo", named := ["loop.example/restaurantkitchen/impl.nextState", "loop.example/restaurantkitchen/impl.piecesLeft"], apart := false, laid := [("loop.example/restaurantkitchen/impl.nextState", laid_loop_example_restaurantkitchen_impl_nextState), ("loop.example/restaurantkitchen/impl.piecesLeft", laid_loop_example_restaurantkitchen_impl_piecesLeft)], narrowed := true }
def FnExactTicketDoUptoSaid : Prop := fnExactTicketDoUptoRow.holds Tryd.pinned (OpenSpec.upto fnExactTicketDoSpec)

/-- 'laws.FnExactTicketMay', WHERE WHAT IT READS IS OF BULK AT MOST 1048576: true; the input reads as it did. -/
def fnExactTicketMayUptoRow : OpenClaim := { program := "ytniinnopifapbaadoor", sum := "34150ea16bafccba3e1d6e8523b300b2e1700bc8af1bd31f59ed58db5e253b7b", func := "loop.example/restaurantkitchen/laws.FnExactTicketMay", spec := "fnExactTicketMay", named := ["loop.example/restaurantkitchen/impl.nextState", "loop.example/restaurantkitchen/impl.piecesLeft"], apart := false, laid := [("loop.example/restaurantkitchen/impl.nextState", laid_loop_example_restaurantkitchen_impl_nextState), ("loop.example/restaurantkitchen/impl.piecesLeft", laid_loop_example_restaurantkitchen_impl_piecesLeft)], narrowed := true }
def FnExactTicketMayUptoSaid : Prop := fnExactTicketMayUptoRow.holds Tryd.pinned (OpenSpec.upto fnExactTicketMaySpec)

/-- 'laws.FnExactTicketCourse', WHERE WHAT IT READS IS OF BULK AT MOST 1048576: true; the input reads as it did. -/
def fnExactTicketCourseUptoRow : OpenClaim := { program := "ytniinnopifapbaadoor", sum := "34150ea16bafccba3e1d6e8523b300b2e1700bc8af1bd31f59ed58db5e253b7b", func := "loop.example/restaurantkitchen/laws.FnExactTicketCourse", spec := "fnExactTicketCourse", named := ["loop.example/restaurantkitchen/impl.piecesLeft"], apart := false, laid := [("loop.example/restaurantkitchen/impl.piecesLeft", laid_loop_example_restaurantkitchen_impl_piecesLeft)], narrowed := true }
def FnExactTicketCourseUptoSaid : Prop := fnExactTicketCourseUptoRow.holds Tryd.pinned (OpenSpec.upto fnExactTicketCourseSpec)

/-- 'laws.FnExactTicketDone', WHERE WHAT IT READS IS OF BULK AT MOST 1048576: true; the input reads as it did. -/
def fnExactTicketDoneUptoRow : OpenClaim := { program := "ytniinnopifapbaadoor", sum := "34150ea16bafccba3e1d6e8523b300b2e1700bc8af1bd31f59ed58db5e253b7b", func := "loop.example/restaurantkitchen/laws.FnExactTicketDone", spec := "fnExactTicketDone", named := ["loop.example/restaurantkitchen/impl.piecesLeft"], apart := false, laid := [("loop.example/restaurantkitchen/impl.piecesLeft", laid_loop_example_restaurantkitchen_impl_piecesLeft)], narrowed := true }
def FnExactTicketDoneUptoSaid : Prop := fnExactTicketDoneUptoRow.holds Tryd.pinned (OpenSpec.upto fnExactTicketDoneSpec)

/-- 'laws.FnExactKitchenValid', WHERE WHAT IT READS IS OF BULK AT MOST 1048576: true; the input reads as it did. -/
def fnExactKitchenValidUptoRow : OpenClaim := { program := "ytniinnopifapbaadoor", sum := "34150ea16bafccba3e1d6e8523b300b2e1700bc8af1bd31f59ed58db5e253b7b", func := "loop.example/restaurantkitchen/laws.FnExactKitchenValid", spec := "fnExactKitchenValid", named := ["loop.example/restaurantkitchen/impl.piecesLeft"], apart := false, laid := [("loop.example/restaurantkitchen/impl.piecesLeft", laid_loop_example_restaurantkitchen_impl_piecesLeft)], narrowed := true }
def FnExactKitchenValidUptoSaid : Prop := fnExactKitchenValidUptoRow.holds Tryd.pinned (OpenSpec.upto fnExactKitchenValidSpec)

/-- 'laws.FnExactNextFire', WHERE WHAT IT READS IS OF BULK AT MOST 1048576: true; the input reads as it did. -/
def fnExactNextFireUptoRow : OpenClaim := { program := "ytniinnopifapbaadoor", sum := "34150ea16bafccba3e1d6e8523b300b2e1700bc8af1bd31f59ed58db5e253b7b", func := "loop.example/restaurantkitchen/laws.FnExactNextFire", spec := "fnExactNextFire", named := ["loop.example/restaurantkitchen/impl.piecesLeft", "loop.example/restaurantkitchen/impl.nextState"], apart := false, laid := [("loop.example/restaurantkitchen/impl.nextState", laid_loop_example_restaurantkitchen_impl_nextState), ("loop.example/restaurantkitchen/impl.piecesLeft", laid_loop_example_restaurantkitchen_impl_piecesLeft)], narrowed := true }
def FnExactNextFireUptoSaid : Prop := fnExactNextFireUptoRow.holds Tryd.pinned (OpenSpec.upto fnExactNextFireSpec)

/-- 'laws.FnExactWorkStep', WHERE WHAT IT READS IS OF BULK AT MOST 1048576: true; the input reads as it did. -/
def fnExactWorkStepUptoRow : OpenClaim := { program := "ytniinnopifapbaadoor", sum := "34150ea16bafccba3e1d6e8523b300b2e1700bc8af1bd31f59ed58db5e253b7b", func := "loop.example/restaurantkitchen/laws.FnExactWorkStep", spec := "fnExactWorkStep", named := ["loop.example/restaurantkitchen/impl.nextState", "loop.example/restaurantkitchen/impl.piecesLeft"], apart := false, laid := [("loop.example/restaurantkitchen/impl.nextState", laid_loop_example_restaurantkitchen_impl_nextState), ("loop.example/restaurantkitchen/impl.piecesLeft", laid_loop_example_restaurantkitchen_impl_piecesLeft)], narrowed := true }
def FnExactWorkStepUptoSaid : Prop := fnExactWorkStepUptoRow.holds Tryd.pinned (OpenSpec.upto fnExactWorkStepSpec)

/-- 'laws.FnExactWorkLeft', WHERE WHAT IT READS IS OF BULK AT MOST 1048576: true; the input reads as it did. -/
def fnExactWorkLeftUptoRow : OpenClaim := { program := "ytniinnopifapbaadoor", sum := "34150ea16bafccba3e1d6e8523b300b2e1700bc8af1bd31f59ed58db5e253b7b", func := "loop.example/restaurantkitchen/laws.FnExactWorkLeft", spec := "fnExactWorkLeft", named := ["loop.example/restaurantkitchen/impl.piecesLeft"], apart := false, laid := [("loop.example/restaurantkitchen/impl.piecesLeft", laid_loop_example_restaurantkitchen_impl_piecesLeft)], narrowed := true }
def FnExactWorkLeftUptoSaid : Prop := fnExactWorkLeftUptoRow.holds Tryd.pinned (OpenSpec.upto fnExactWorkLeftSpec)

/-- 'laws.FnExactWorkRun', WHERE WHAT IT READS IS OF BULK AT MOST 1048576: true; the input reads as it did. -/
def fnExactWorkRunUptoRow : OpenClaim := { program := "ytniinnopifapbaadoor", sum := "34150ea16bafccba3e1d6e8523b300b2e1700bc8af1bd31f59ed58db5e253b7b", func := "loop.example/restaurantkitchen/laws.FnExactWorkRun", spec := "fnExactWorkRun", named := ["loop.example/restaurantkitchen/impl.piecesLeft", "loop.example/restaurantkitchen/impl.nextState"], apart := false, laid := [("loop.example/restaurantkitchen/impl.nextState", laid_loop_example_restaurantkitchen_impl_nextState), ("loop.example/restaurantkitchen/impl.piecesLeft", laid_loop_example_restaurantkitchen_impl_piecesLeft)], narrowed := true }
def FnExactWorkRunUptoSaid : Prop := fnExactWorkRunUptoRow.holds Tryd.pinned (OpenSpec.upto fnExactWorkRunSpec)

end Rows
end Go.Proofs.YtniinnopifapbaaDoor
