/-
  NARROWER THAN 'FOR EVERY INPUT', by the rows' own cells (each row's printed sentence says how): FnExactHouseValid: laid · FnExactTableBill: laid · FnExactHouseWorth: laid · FnExactEndDeeds: laid.
  DERIVED. THE GIVEN ROWS OF THIS SEAT. 4 by the template 'for every input the law returns true; each argument reads behind the call as it read before'; 0 by the template 'total and deterministic' (their statements: YtefpifpalnafmaaDoorTotals.lean).
  GIVEN WITH THE SEED: the statements are not yours to turn. If you find one false, say at which input.
  Laid BY PROGRAM, IN A SANDBOX (cutbox-rows.mjs): the forced cells as the released guide's own fill.sh prints them over the translation d169e49d89114c03… (all of the seat's roots in one cut). By AI agents, Wed Nov 11 2026. No macro, syntax, notation, axiom, sorry.
-/
import Derived.Test.YtefpifpalnafmaaDoorChecked
import GoSem.Claim
import GoSem.ClaimJoined
import GoSem.ClaimMapViews
import Derived.JoinedTies
import Derived.KernelRfl
namespace Go.Proofs.YtefpifpalnafmaaDoor
/- THE CELL 'sum', in the pinned program and in every row, IS THE sha256 OF THE DUMP (.gsa) THAT YtefpifpalnafmaaDoorProg.lean LOADS. Nothing in Lean hashes anything: it is a label: what it is worth is what the hold of that sum in a sandbox is worth. -/
noncomputable def Tryd.pinned : Pinned := { name := "ytefpifpalnafmaadoor", sum := "d169e49d89114c031cefbdee325844f4abb110a568d088ebf496145c0dc994d3", checked := Tryd.checked }
namespace Rows
def none {H : Type} : Left H := { results := [], args := [] }

/- WHAT THE LISTED PACKAGE-LEVEL VARIABLES READ AS WHEN THE CALL BEGINS. Each datum BY PROGRAM (the guide's laid-datum.mjs) off the statement by which the dump's own 'gosem.cut.vars' lays the variable. In a bare row this is a premise. The card (YtefpifpalnafmaaDoorCards.lean) ties it to the program's text. -/
def laid_loop_example_restaurantkitchen_impl_piecesLeft {H : Type} : DataW H := .agg [.lit (.int .i64 3), .lit (.int .i64 2), .lit (.int .i64 1), .lit (.int .i64 0), .lit (.int .i64 0)]

/-- 'laws.FnExactHouseValid': WHATEVER THE INPUT: true; the input reads as it did. -/
def fnExactHouseValidSpec : ChangeSpec := { name := "fnExactHouseValid", vars := ["loop.example/restaurantkitchen/impl.piecesLeft"], fn := fun _ => fun
  | [d, g1] => { results := [.lit (.bool true)], args := [d], vars := [g1] }
  | _ => none }
def fnExactHouseValidRow : OpenClaim := { program := "ytefpifpalnafmaadoor", sum := "d169e49d89114c031cefbdee325844f4abb110a568d088ebf496145c0dc994d3", func := "loop.example/restaurantkitchen/laws.FnExactHouseValid", spec := "fnExactHouseValid", named := ["loop.example/restaurantkitchen/impl.piecesLeft"], apart := false, laid := [("loop.example/restaurantkitchen/impl.piecesLeft", laid_loop_example_restaurantkitchen_impl_piecesLeft)] }
def FnExactHouseValidSaid : Prop := fnExactHouseValidRow.holds Tryd.pinned (OpenSpec.ofChange fnExactHouseValidSpec)

/-- ITS FALSE NEIGHBOUR: 'it returns false'. Refute it at one input. -/
def fnExactHouseValidWrong : ChangeSpec := { name := "fnExactHouseValid", vars := ["loop.example/restaurantkitchen/impl.piecesLeft"], fn := fun _ => fun
  | [d, g1] => { results := [.lit (.bool false)], args := [d], vars := [g1] }
  | _ => none }
def FnExactHouseValidWrongFalsely : Prop := fnExactHouseValidRow.holds Tryd.pinned (OpenSpec.ofChange fnExactHouseValidWrong)

/-- 'laws.FnExactTableBill': WHATEVER THE INPUT: true; the input reads as it did. -/
def fnExactTableBillSpec : ChangeSpec := { name := "fnExactTableBill", vars := ["loop.example/restaurantkitchen/impl.piecesLeft"], fn := fun _ => fun
  | [d1, d2, g1] => { results := [.lit (.bool true)], args := [d1, d2], vars := [g1] }
  | _ => none }
def fnExactTableBillRow : OpenClaim := { program := "ytefpifpalnafmaadoor", sum := "d169e49d89114c031cefbdee325844f4abb110a568d088ebf496145c0dc994d3", func := "loop.example/restaurantkitchen/laws.FnExactTableBill", spec := "fnExactTableBill", named := ["loop.example/restaurantkitchen/impl.piecesLeft"], apart := false, laid := [("loop.example/restaurantkitchen/impl.piecesLeft", laid_loop_example_restaurantkitchen_impl_piecesLeft)] }
def FnExactTableBillSaid : Prop := fnExactTableBillRow.holds Tryd.pinned (OpenSpec.ofChange fnExactTableBillSpec)

/-- ITS FALSE NEIGHBOUR: 'it returns false'. Refute it at one input. -/
def fnExactTableBillWrong : ChangeSpec := { name := "fnExactTableBill", vars := ["loop.example/restaurantkitchen/impl.piecesLeft"], fn := fun _ => fun
  | [d1, d2, g1] => { results := [.lit (.bool false)], args := [d1, d2], vars := [g1] }
  | _ => none }
def FnExactTableBillWrongFalsely : Prop := fnExactTableBillRow.holds Tryd.pinned (OpenSpec.ofChange fnExactTableBillWrong)

/-- 'laws.FnExactHouseWorth': WHATEVER THE INPUT: true; the input reads as it did. -/
def fnExactHouseWorthSpec : ChangeSpec := { name := "fnExactHouseWorth", vars := ["loop.example/restaurantkitchen/impl.piecesLeft"], fn := fun _ => fun
  | [d, g1] => { results := [.lit (.bool true)], args := [d], vars := [g1] }
  | _ => none }
def fnExactHouseWorthRow : OpenClaim := { program := "ytefpifpalnafmaadoor", sum := "d169e49d89114c031cefbdee325844f4abb110a568d088ebf496145c0dc994d3", func := "loop.example/restaurantkitchen/laws.FnExactHouseWorth", spec := "fnExactHouseWorth", named := ["loop.example/restaurantkitchen/impl.piecesLeft"], apart := false, laid := [("loop.example/restaurantkitchen/impl.piecesLeft", laid_loop_example_restaurantkitchen_impl_piecesLeft)] }
def FnExactHouseWorthSaid : Prop := fnExactHouseWorthRow.holds Tryd.pinned (OpenSpec.ofChange fnExactHouseWorthSpec)

/-- ITS FALSE NEIGHBOUR: 'it returns false'. Refute it at one input. -/
def fnExactHouseWorthWrong : ChangeSpec := { name := "fnExactHouseWorth", vars := ["loop.example/restaurantkitchen/impl.piecesLeft"], fn := fun _ => fun
  | [d, g1] => { results := [.lit (.bool false)], args := [d], vars := [g1] }
  | _ => none }
def FnExactHouseWorthWrongFalsely : Prop := fnExactHouseWorthRow.holds Tryd.pinned (OpenSpec.ofChange fnExactHouseWorthWrong)

/-- 'laws.FnExactEndDeeds': WHATEVER THE INPUT: true; the input reads as it did. -/
def fnExactEndDeedsSpec : ChangeSpec := { name := "fnExactEndDeeds", vars := ["loop.example/restaurantkitchen/impl.piecesLeft"], fn := fun _ => fun
  | [d, g1] => { results := [.lit (.bool true)], args := [d], vars := [g1] }
  | _ => none }
def fnExactEndDeedsRow : OpenClaim := { program := "ytefpifpalnafmaadoor", sum := "d169e49d89114c031cefbdee325844f4abb110a568d088ebf496145c0dc994d3", func := "loop.example/restaurantkitchen/laws.FnExactEndDeeds", spec := "fnExactEndDeeds", named := ["loop.example/restaurantkitchen/impl.piecesLeft"], apart := false, laid := [("loop.example/restaurantkitchen/impl.piecesLeft", laid_loop_example_restaurantkitchen_impl_piecesLeft)] }
def FnExactEndDeedsSaid : Prop := fnExactEndDeedsRow.holds Tryd.pinned (OpenSpec.ofChange fnExactEndDeedsSpec)

/-- ITS FALSE NEIGHBOUR: 'it returns false'. Refute it at one input. -/
def fnExactEndDeedsWrong : ChangeSpec := { name := "fnExactEndDeeds", vars := ["loop.example/restaurantkitchen/impl.piecesLeft"], fn := fun _ => fun
  | [d, g1] => { results := [.lit (.bool false)], args := [d], vars := [g1] }
  | _ => none }
def FnExactEndDeedsWrongFalsely : Prop := fnExactEndDeedsRow.holds Tryd.pinned (OpenSpec.ofChange fnExactEndDeedsWrong)

/- THE SECOND FORM. 'bulk': how many values and letters a reading holds, each counted each time it is reached (what is shared counts as often as it is met; a slice's spare places count too). A statement '..UptoSaid' is the law's where the arguments, and the package variables that the reading takes, are together of bulk at most 1048576: NARROWER than '..Said'. Prove '..Said' where nothing that the law and all that it calls make is longer than what came in: it says more and counts as full. Else prove '..UptoSaid'. A law counts once. -/
mutual
def uptoBulk {H : Type} : DataW H → Nat
  | .lit (.string bytes) => bytes.length + 1
  | .lit _ => 1
  | .nil => 1
  | .ptr d => uptoBulk d + 1
  | .slice elems spare => uptoBulkAll elems + uptoBulkAll spare + 1
  | .agg parts => uptoBulkAll parts + 1
  | .iface _ d => uptoBulk d + 1
  | .map entries => uptoBulkEntries entries + 1
  | .held _ => 1
def uptoBulkAll {H : Type} : List (DataW H) → Nat
  | [] => 0
  | d :: r => uptoBulk d + uptoBulkAll r
def uptoBulkEntries {H : Type} : List (Lit × DataW H) → Nat
  | [] => 0
  | x :: r => uptoBulkEntry x + uptoBulkEntries r
def uptoBulkEntry {H : Type} : Lit × DataW H → Nat
  | (.string bytes, d) => bytes.length + uptoBulk d + 1
  | (_, d) => uptoBulk d + 1
 end
def uptoSmall : (H : Type) → List (DataW H) → Bool := fun _ ds => decide (uptoBulkAll ds ≤ 1048576)
def OpenSpec.upto (s : _root_.Go.ChangeSpec) : _root_.Go.OpenSpec := { _root_.Go.OpenSpec.ofChange s with cond := some uptoSmall }

/-- 'laws.FnExactHouseValid', WHERE WHAT IT READS IS OF BULK AT MOST 1048576: true; the input reads as it did. -/
def fnExactHouseValidUptoRow : OpenClaim := { program := "ytefpifpalnafmaadoor", sum := "d169e49d89114c031cefbdee325844f4abb110a568d088ebf496145c0dc994d3", func := "loop.example/restaurantkitchen/laws.FnExactHouseValid", spec := "fnExactHouseValid", named := ["loop.example/restaurantkitchen/impl.piecesLeft"], apart := false, laid := [("loop.example/restaurantkitchen/impl.piecesLeft", laid_loop_example_restaurantkitchen_impl_piecesLeft)], narrowed := true }
def FnExactHouseValidUptoSaid : Prop := fnExactHouseValidUptoRow.holds Tryd.pinned (OpenSpec.upto fnExactHouseValidSpec)

/-- 'laws.FnExactTableBill', WHERE WHAT IT READS IS OF BULK AT MOST 1048576: true; the input reads as it did. -/
def fnExactTableBillUptoRow : OpenClaim := { program := "ytefpifpalnafmaadoor", sum := "d169e49d89114c031cefbdee325844f4abb110a568d088ebf496145c0dc994d3", func := "loop.example/restaurantkitchen/laws.FnExactTableBill", spec := "fnExactTableBill", named := ["loop.example/restaurantkitchen/impl.piecesLeft"], apart := false, laid := [("loop.example/restaurantkitchen/impl.piecesLeft", laid_loop_example_restaurantkitchen_impl_piecesLeft)], narrowed := true }
def FnExactTableBillUptoSaid : Prop := fnExactTableBillUptoRow.holds Tryd.pinned (OpenSpec.upto fnExactTableBillSpec)

/-- 'laws.FnExactHouseWorth', WHERE WHAT IT READS IS OF BULK AT MOST 1048576: true; the input reads as it did. -/
def fnExactHouseWorthUptoRow : OpenClaim := { program := "ytefpifpalnafmaadoor", sum := "d169e49d89114c031cefbdee325844f4abb110a568d088ebf496145c0dc994d3", func := "loop.example/restaurantkitchen/laws.FnExactHouseWorth", spec := "fnExactHouseWorth", named := ["loop.example/restaurantkitchen/impl.piecesLeft"], apart := false, laid := [("loop.example/restaurantkitchen/impl.piecesLeft", laid_loop_example_restaurantkitchen_impl_piecesLeft)], narrowed := true }
def FnExactHouseWorthUptoSaid : Prop := fnExactHouseWorthUptoRow.holds Tryd.pinned (OpenSpec.upto fnExactHouseWorthSpec)

/-- 'laws.FnExactEndDeeds', WHERE WHAT IT READS IS OF BULK AT MOST 1048576: true; the input reads as it did. -/
def fnExactEndDeedsUptoRow : OpenClaim := { program := "ytefpifpalnafmaadoor", sum := "d169e49d89114c031cefbdee325844f4abb110a568d088ebf496145c0dc994d3", func := "loop.example/restaurantkitchen/laws.FnExactEndDeeds", spec := "fnExactEndDeeds", named := ["loop.example/restaurantkitchen/impl.piecesLeft"], apart := false, laid := [("loop.example/restaurantkitchen/impl.piecesLeft", laid_loop_example_restaurantkitchen_impl_piecesLeft)], narrowed := true }
def FnExactEndDeedsUptoSaid : Prop := fnExactEndDeedsUptoRow.holds Tryd.pinned (OpenSpec.upto fnExactEndDeedsSpec)

end Rows
end Go.Proofs.YtefpifpalnafmaaDoor
