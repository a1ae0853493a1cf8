/-
  No cell of these rows narrows 'for every input' (looked for: loops, veiled, ifaces, maps, wideKeys, modest, calm, conditions, laid).
  DERIVED. THE GIVEN ROWS OF THIS SEAT. 4 by the template 'for every input the law returns true; each argument reads behind the call as it read before'; 0 by the template 'total and deterministic' (their statements: YtdlbcadgomegoaaTotals.lean).
  GIVEN WITH THE SEED: the statements are not yours to turn. If you find one false, say at which input.
  Laid BY PROGRAM, IN A SANDBOX (cutbox-rows.mjs): the forced cells as the released guide's own fill.sh prints them over the translation 30e3636f34ecdd1e… (all of the seat's roots in one cut). By AI agents, Wed Nov 11 2026. No macro, syntax, notation, axiom, sorry.
-/
import Derived.Test.YtdlbcadgomegoaaChecked
import GoSem.Claim
import GoSem.ClaimJoined
import GoSem.ClaimMapViews
import Derived.JoinedTies
import Derived.KernelRfl
namespace Go.Proofs.Ytdlbcadgomegoaa
/- THE CELL 'sum', in the pinned program and in every row, IS THE sha256 OF THE DUMP (.gsa) THAT YtdlbcadgomegoaaProg.lean LOADS. Nothing in Lean hashes anything: it is a label: what it is worth is what the hold of that sum in a sandbox is worth. -/
noncomputable def Try.pinned : Pinned := { name := "ytdlbcadgomegoaa", sum := "30e3636f34ecdd1e45b3ec19b40914bfc774d8627b43d0353b98f63942ee6000", checked := Try.checked }
namespace Rows
def none {H : Type} : Left H := { results := [], args := [] }

/-- 'laws.FnExactPlanLeast': WHATEVER THE INPUT: true; the input reads as it did. -/
def fnExactPlanLeastSpec : ChangeSpec := { name := "fnExactPlanLeast", fn := fun _ => fun
  | [d1, d2, d3] => { results := [.lit (.bool true)], args := [d1, d2, d3] }
  | _ => none }
def fnExactPlanLeastRow : OpenClaim := { program := "ytdlbcadgomegoaa", sum := "30e3636f34ecdd1e45b3ec19b40914bfc774d8627b43d0353b98f63942ee6000", func := "loop.example/restaurantkitchen/laws.FnExactPlanLeast", spec := "fnExactPlanLeast", apart := false }
def FnExactPlanLeastSaid : Prop := fnExactPlanLeastRow.holds Try.pinned (OpenSpec.ofChange fnExactPlanLeastSpec)

/-- ITS FALSE NEIGHBOUR: 'it returns false'. Refute it at one input. -/
def fnExactPlanLeastWrong : ChangeSpec := { name := "fnExactPlanLeast", fn := fun _ => fun
  | [d1, d2, d3] => { results := [.lit (.bool false)], args := [d1, d2, d3] }
  | _ => none }
def FnExactPlanLeastWrongFalsely : Prop := fnExactPlanLeastRow.holds Try.pinned (OpenSpec.ofChange fnExactPlanLeastWrong)

/-- 'laws.FnExactUnitCost': WHATEVER THE INPUT: true; the input reads as it did. -/
def fnExactUnitCostSpec : ChangeSpec := { name := "fnExactUnitCost", fn := fun _ => fun
  | [d1, d2, d3] => { results := [.lit (.bool true)], args := [d1, d2, d3] }
  | _ => none }
def fnExactUnitCostRow : OpenClaim := { program := "ytdlbcadgomegoaa", sum := "30e3636f34ecdd1e45b3ec19b40914bfc774d8627b43d0353b98f63942ee6000", func := "loop.example/restaurantkitchen/laws.FnExactUnitCost", spec := "fnExactUnitCost", apart := false }
def FnExactUnitCostSaid : Prop := fnExactUnitCostRow.holds Try.pinned (OpenSpec.ofChange fnExactUnitCostSpec)

/-- ITS FALSE NEIGHBOUR: 'it returns false'. Refute it at one input. -/
def fnExactUnitCostWrong : ChangeSpec := { name := "fnExactUnitCost", fn := fun _ => fun
  | [d1, d2, d3] => { results := [.lit (.bool false)], args := [d1, d2, d3] }
  | _ => none }
def FnExactUnitCostWrongFalsely : Prop := fnExactUnitCostRow.holds Try.pinned (OpenSpec.ofChange fnExactUnitCostWrong)

/-- 'laws.FnExactMakeRun': WHATEVER THE INPUT: true; the input reads as it did. -/
def fnExactMakeRunSpec : ChangeSpec := { name := "fnExactMakeRun", fn := fun _ => fun
  | [d1, d2, d3] => { results := [.lit (.bool true)], args := [d1, d2, d3] }
  | _ => none }
def fnExactMakeRunRow : OpenClaim := { program := "ytdlbcadgomegoaa", sum := "30e3636f34ecdd1e45b3ec19b40914bfc774d8627b43d0353b98f63942ee6000", func := "loop.example/restaurantkitchen/laws.FnExactMakeRun", spec := "fnExactMakeRun", apart := false }
def FnExactMakeRunSaid : Prop := fnExactMakeRunRow.holds Try.pinned (OpenSpec.ofChange fnExactMakeRunSpec)

/-- ITS FALSE NEIGHBOUR: 'it returns false'. Refute it at one input. -/
def fnExactMakeRunWrong : ChangeSpec := { name := "fnExactMakeRun", fn := fun _ => fun
  | [d1, d2, d3] => { results := [.lit (.bool false)], args := [d1, d2, d3] }
  | _ => none }
def FnExactMakeRunWrongFalsely : Prop := fnExactMakeRunRow.holds Try.pinned (OpenSpec.ofChange fnExactMakeRunWrong)

/-- 'laws.FnExactStartsEarly': WHATEVER THE INPUT: true; the input reads as it did. -/
def fnExactStartsEarlySpec : ChangeSpec := { name := "fnExactStartsEarly", fn := fun _ => fun
  | [d] => { results := [.lit (.bool true)], args := [d] }
  | _ => none }
def fnExactStartsEarlyRow : OpenClaim := { program := "ytdlbcadgomegoaa", sum := "30e3636f34ecdd1e45b3ec19b40914bfc774d8627b43d0353b98f63942ee6000", func := "loop.example/restaurantkitchen/laws.FnExactStartsEarly", spec := "fnExactStartsEarly", apart := false }
def FnExactStartsEarlySaid : Prop := fnExactStartsEarlyRow.holds Try.pinned (OpenSpec.ofChange fnExactStartsEarlySpec)

/-- ITS FALSE NEIGHBOUR: 'it returns false'. Refute it at one input. -/
def fnExactStartsEarlyWrong : ChangeSpec := { name := "fnExactStartsEarly", fn := fun _ => fun
  | [d] => { results := [.lit (.bool false)], args := [d] }
  | _ => none }
def FnExactStartsEarlyWrongFalsely : Prop := fnExactStartsEarlyRow.holds Try.pinned (OpenSpec.ofChange fnExactStartsEarlyWrong)

/- THE SECOND FORM. 'bulk': how many values and letters a reading holds, each counted each time it is reached (what is shared counts as often as it is met; a slice's spare places count too). A statement '..UptoSaid' is the law's where the arguments, and the package variables that the reading takes, are together of bulk at most 1048576: NARROWER than '..Said'. Prove '..Said' where nothing that the law and all that it calls make is longer than what came in: it says more and counts as full. Else prove '..UptoSaid'. A law counts once. -/
mutual
def uptoBulk {H : Type} : DataW H → Nat
  | .lit (.string bytes) => bytes.length + 1
  | .lit _ => 1
  | .nil => 1
  | .ptr d => uptoBulk d + 1
  | .slice elems spare => uptoBulkAll elems + uptoBulkAll spare + 1
  | .agg parts => uptoBulkAll parts + 1
  | .iface _ d => uptoBulk d + 1
  | .map entries => uptoBulkEntries entries + 1
  | .held _ => 1
def uptoBulkAll {H : Type} : List (DataW H) → Nat
  | [] => 0
  | d :: r => uptoBulk d + uptoBulkAll r
def uptoBulkEntries {H : Type} : List (Lit × DataW H) → Nat
  | [] => 0
  | x :: r => uptoBulkEntry x + uptoBulkEntries r
def uptoBulkEntry {H : Type} : Lit × DataW H → Nat
  | (.string bytes, d) => bytes.length + uptoBulk d + 1
  | (_, d) => uptoBulk d + 1
 end
def uptoSmall : (H : Type) → List (DataW H) → Bool := fun _ ds => decide (uptoBulkAll ds ≤ 1048576)
def OpenSpec.upto (s : _root_.Go.ChangeSpec) : _root_.Go.OpenSpec := { _root_.Go.OpenSpec.ofChange s with cond := some uptoSmall }

/-- 'laws.FnExactPlanLeast', WHERE WHAT IT READS IS OF BULK AT MOST 1048576: true; the input reads as it did. -/
def fnExactPlanLeastUptoRow : OpenClaim := { program := "ytdlbcadgomegoaa", sum := "30e3636f34ecdd1e45b3ec19b40914bfc774d8627b43d0353b98f63942ee6000", func := "loop.example/restaurantkitchen/laws.FnExactPlanLeast", spec := "fnExactPlanLeast", apart := false, narrowed := true }
def FnExactPlanLeastUptoSaid : Prop := fnExactPlanLeastUptoRow.holds Try.pinned (OpenSpec.upto fnExactPlanLeastSpec)

/-- 'laws.FnExactUnitCost', WHERE WHAT IT READS IS OF BULK AT MOST 1048576: true; the input reads as it did. -/
def fnExactUnitCostUptoRow : OpenClaim := { program := "ytdlbcadgomegoaa", sum := "30e3636f34ecdd1e45b3ec19b40914bfc774d8627b43d0353b98f63942ee6000", func := "loop.example/restaurantkitchen/laws.FnExactUnitCost", spec := "fnExactUnitCost", apart := false, narrowed := true }
def FnExactUnitCostUptoSaid : Prop := fnExactUnitCostUptoRow.holds Try.pinned (OpenSpec.upto fnExactUnitCostSpec)

/-- 'laws.FnExactMakeRun', WHERE WHAT IT READS IS OF BULK AT MOST 1048576: true; the input reads as it did. -/
def fnExactMakeRunUptoRow : OpenClaim := { program := "ytdlbcadgomegoaa", sum := "30e3636f34ecdd1e45b3ec19b40914bfc774d8627b43d0353b98f63942ee6000", func := "loop.example/restaurantkitchen/laws.FnExactMakeRun", spec := "fnExactMakeRun", apart := false, narrowed := true }
def FnExactMakeRunUptoSaid : Prop := fnExactMakeRunUptoRow.holds Try.pinned (OpenSpec.upto fnExactMakeRunSpec)

/-- 'laws.FnExactStartsEarly', WHERE WHAT IT READS IS OF BULK AT MOST 1048576: true; the input reads as it did. -/
def fnExactStartsEarlyUptoRow : OpenClaim := { program := "ytdlbcadgomegoaa", sum := "30e3636f34ecdd1e45b3ec19b40914bfc774d8627b43d0353b98f63942ee6000", func := "loop.example/restaurantkitchen/laws.FnExactStartsEarly", spec := "fnExactStartsEarly", apart := false, narrowed := true }
def FnExactStartsEarlyUptoSaid : Prop := fnExactStartsEarlyUptoRow.holds Try.pinned (OpenSpec.upto fnExactStartsEarlySpec)

end Rows
end Go.Proofs.Ytdlbcadgomegoaa
