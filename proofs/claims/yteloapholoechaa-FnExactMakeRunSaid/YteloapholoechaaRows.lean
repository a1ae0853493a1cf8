/-
  No cell of these rows narrows 'for every input' (looked for: loops, veiled, ifaces, maps, wideKeys, modest, calm, conditions, laid).
  DERIVED. THE GIVEN ROWS OF THIS SEAT. 2 by the template 'for every input the law returns true; each argument reads behind the call as it read before'; 0 by the template 'total and deterministic' (their statements: YteloapholoechaaTotals.lean).
  GIVEN WITH THE SEED: the statements are not yours to turn. If you find one false, say at which input.
  Laid BY PROGRAM, IN A SANDBOX (cutbox-rows.mjs): the forced cells as the released guide's own fill.sh prints them over the translation c4ce7d7439a6b938… (all of the seat's roots in one cut). By AI agents, Wed Nov 11 2026. No macro, syntax, notation, axiom, sorry.
-/
import Derived.Test.YteloapholoechaaChecked
import GoSem.Claim
import GoSem.ClaimJoined
import GoSem.ClaimMapViews
import Derived.JoinedTies
import Derived.KernelRfl
namespace Go.Proofs.Yteloapholoechaa
/- THE CELL 'sum', in the pinned program and in every row, IS THE sha256 OF THE DUMP (.gsa) THAT YteloapholoechaaProg.lean LOADS. Nothing in Lean hashes anything: it is a label: what it is worth is what the hold of that sum in a sandbox is worth. -/
noncomputable def Try.pinned : Pinned := { name := "yteloapholoechaa", sum := "c4ce7d7439a6b93841e649a3c2dfec8b9d76a5550f08759a22d946c97b05b017", checked := Try.checked }
namespace Rows
def none {H : Type} : Left H := { results := [], args := [] }

/-- 'laws.FnExactPlanLeast': WHATEVER THE INPUT: true; the input reads as it did. -/
def fnExactPlanLeastSpec : ChangeSpec := { name := "fnExactPlanLeast", fn := fun _ => fun
  | [d1, d2, d3] => { results := [.lit (.bool true)], args := [d1, d2, d3] }
  | _ => none }
def fnExactPlanLeastRow : OpenClaim := { program := "yteloapholoechaa", sum := "c4ce7d7439a6b93841e649a3c2dfec8b9d76a5550f08759a22d946c97b05b017", func := "loop.example/restaurantkitchen/laws.FnExactPlanLeast", spec := "fnExactPlanLeast", apart := false }
def FnExactPlanLeastSaid : Prop := fnExactPlanLeastRow.holds Try.pinned (OpenSpec.ofChange fnExactPlanLeastSpec)

/-- ITS FALSE NEIGHBOUR: 'it returns false'. Refute it at one input. -/
def fnExactPlanLeastWrong : ChangeSpec := { name := "fnExactPlanLeast", fn := fun _ => fun
  | [d1, d2, d3] => { results := [.lit (.bool false)], args := [d1, d2, d3] }
  | _ => none }
def FnExactPlanLeastWrongFalsely : Prop := fnExactPlanLeastRow.holds Try.pinned (OpenSpec.ofChange fnExactPlanLeastWrong)

/-- 'laws.FnExactMakeRun': WHATEVER THE INPUT: true; the input reads as it did. -/
def fnExactMakeRunSpec : ChangeSpec := { name := "fnExactMakeRun", fn := fun _ => fun
  | [d1, d2, d3] => { results := [.lit (.bool true)], args := [d1, d2, d3] }
  | _ => none }
def fnExactMakeRunRow : OpenClaim := { program := "yteloapholoechaa", sum := "c4ce7d7439a6b93841e649a3c2dfec8b9d76a5550f08759a22d946c97b05b017", func := "loop.example/restaurantkitchen/laws.FnExactMakeRun", spec := "fnExactMakeRun", apart := false }
def FnExactMakeRunSaid : Prop := fnExactMakeRunRow.holds Try.pinned (OpenSpec.ofChange fnExactMakeRunSpec)

/-- ITS FALSE NEIGHBOUR: 'it returns false'. Refute it at one input. -/
def fnExactMakeRunWrong : ChangeSpec := { name := "fnExactMakeRun", fn := fun _ => fun
  | [d1, d2, d3] => { results := [.lit (.bool false)], args := [d1, d2, d3] }
  | _ => none }
def FnExactMakeRunWrongFalsely : Prop := fnExactMakeRunRow.holds Try.pinned (OpenSpec.ofChange fnExactMakeRunWrong)

/- THE SECOND FORM. 'bulk': how many values and letters a reading holds, each counted each time it is reached (what is shared counts as often as it is met; a slice's spare places count too). A statement '..UptoSaid' is the law's where the arguments, and the package variables that the reading takes, are together of bulk at most 1048576: NARROWER than '..Said'. Prove '..Said' where nothing that the law and all that it calls make is longer than what came in: it says more and counts as full. Else prove '..UptoSaid'. A law counts once. -/
mutual
def uptoBulk {H : Type} : DataW H → Nat
  | .lit (.string bytes) => bytes.length + 1
  | .lit _ => 1
  | .nil => 1
  | .ptr d => uptoBulk d + 1
  | .slice elems spare => uptoBulkAll elems + uptoBulkAll spare + 1
  | .agg parts => uptoBulkAll parts + 1
  | .iface _ d => uptoBulk d + 1
  | .map entries => uptoBulkEntries entries + 1
  | .held _ => 1
def uptoBulkAll {H : Type} : List (DataW H) → Nat
  | [] => 0
  | d :: r => uptoBulk d + uptoBulkAll r
def uptoBulkEntries {H : Type} : List (Lit × DataW H) → Nat
  | [] => 0
  | x :: r => uptoBulkEntry x + uptoBulkEntries r
def uptoBulkEntry {H : Type} : Lit × DataW H → Nat
  | (.string bytes, d) => bytes.length + uptoBulk d + 1
  | (_, d) => uptoBulk d + 1
 end
def uptoSmall : (H : Type) → List (DataW H) → Bool := fun _ ds => decide (uptoBulkAll ds ≤ 1048576)
def OpenSpec.upto (s : _root_.Go.ChangeSpec) : _root_.Go.OpenSpec := { _root_.Go.OpenSpec.ofChange s with cond := some uptoSmall }

/-- 'laws.FnExactPlanLeast', WHERE WHAT IT READS IS OF BULK AT MOST 1048576: true; the input reads as it did. -/
def fnExactPlanLeastUptoRow : OpenClaim := { program := "yteloapholoechaa", sum := "c4ce7d7439a6b93841e649a3c2dfec8b9d76a5550f08759a22d946c97b05b017", func := "loop.example/restaurantkitchen/laws.FnExactPlanLeast", spec := "fnExactPlanLeast", apart := false, narrowed := true }
def FnExactPlanLeastUptoSaid : Prop := fnExactPlanLeastUptoRow.holds Try.pinned (OpenSpec.upto fnExactPlanLeastSpec)

/-- 'laws.FnExactMakeRun', WHERE WHAT IT READS IS OF BULK AT MOST 1048576: true; the input reads as it did. -/
def fnExactMakeRunUptoRow : OpenClaim := { program := "yteloapholoechaa", sum := "c4ce7d7439a6b93841e649a3c2dfec8b9d76a5550f08759a22d946c97b05b017", func := "loop.example/restaurantkitchen/laws.FnExactMakeRun", spec := "fnExactMakeRun", apart := false, narrowed := true }
def FnExactMakeRunUptoSaid : Prop := fnExactMakeRunUptoRow.holds Try.pinned (OpenSpec.upto fnExactMakeRunSpec)

end Rows
end Go.Proofs.Yteloapholoechaa
