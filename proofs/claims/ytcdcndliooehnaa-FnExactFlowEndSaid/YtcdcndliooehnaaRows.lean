/-
  No cell of these rows narrows 'for every input' (looked for: loops, veiled, ifaces, maps, wideKeys, modest, calm, conditions, laid).
  DERIVED. THE GIVEN ROWS OF THIS SEAT. 12 by the template 'for every input the law returns true; each argument reads behind the call as it read before'; 0 by the template 'total and deterministic' (their statements: YtcdcndliooehnaaTotals.lean).
  GIVEN WITH THE SEED: the statements are not yours to turn. If you find one false, say at which input.
  Laid BY PROGRAM, IN A SANDBOX (cutbox-rows.mjs): the forced cells as the released guide's own fill.sh prints them over the translation 121d6d7c06bc8557… (all of the seat's roots in one cut). By AI agents, Wed Nov 11 2026. No macro, syntax, notation, axiom, sorry.
-/
import Derived.Test.YtcdcndliooehnaaChecked
import GoSem.Claim
import GoSem.ClaimJoined
import GoSem.ClaimMapViews
import Derived.JoinedTies
import Derived.KernelRfl
namespace Go.Proofs.Ytcdcndliooehnaa
/- THE CELL 'sum', in the pinned program and in every row, IS THE sha256 OF THE DUMP (.gsa) THAT YtcdcndliooehnaaProg.lean LOADS. Nothing in Lean hashes anything: it is a label: what it is worth is what the hold of that sum in a sandbox is worth. -/
noncomputable def Try.pinned : Pinned := { name := "ytcdcndliooehnaa", sum := "121d6d7c06bc8557b701304f82d6fd13911c0baf8cc8cfd5f4a833b8d2e315c1", checked := Try.checked }
namespace Rows
def none {H : Type} : Left H := { results := [], args := [] }

/-- 'laws.FnExactDishesValid': WHATEVER THE INPUT: true; the input reads as it did. -/
def fnExactDishesValidSpec : ChangeSpec := { name := "fnExactDishesValid", fn := fun _ => fun
  | [d] => { results := [.lit (.bool true)], args := [d] }
  | _ => none }
def fnExactDishesValidRow : OpenClaim := { program := "ytcdcndliooehnaa", sum := "121d6d7c06bc8557b701304f82d6fd13911c0baf8cc8cfd5f4a833b8d2e315c1", func := "loop.example/restaurantkitchen/laws.FnExactDishesValid", spec := "fnExactDishesValid", apart := false }
def FnExactDishesValidSaid : Prop := fnExactDishesValidRow.holds Try.pinned (OpenSpec.ofChange fnExactDishesValidSpec)

/-- ITS FALSE NEIGHBOUR: 'it returns false'. Refute it at one input. -/
def fnExactDishesValidWrong : ChangeSpec := { name := "fnExactDishesValid", fn := fun _ => fun
  | [d] => { results := [.lit (.bool false)], args := [d] }
  | _ => none }
def FnExactDishesValidWrongFalsely : Prop := fnExactDishesValidRow.holds Try.pinned (OpenSpec.ofChange fnExactDishesValidWrong)

/-- 'laws.FnExactOrderOk': WHATEVER THE INPUT: true; the input reads as it did. -/
def fnExactOrderOkSpec : ChangeSpec := { name := "fnExactOrderOk", fn := fun _ => fun
  | [d1, d2] => { results := [.lit (.bool true)], args := [d1, d2] }
  | _ => none }
def fnExactOrderOkRow : OpenClaim := { program := "ytcdcndliooehnaa", sum := "121d6d7c06bc8557b701304f82d6fd13911c0baf8cc8cfd5f4a833b8d2e315c1", func := "loop.example/restaurantkitchen/laws.FnExactOrderOk", spec := "fnExactOrderOk", apart := false }
def FnExactOrderOkSaid : Prop := fnExactOrderOkRow.holds Try.pinned (OpenSpec.ofChange fnExactOrderOkSpec)

/-- ITS FALSE NEIGHBOUR: 'it returns false'. Refute it at one input. -/
def fnExactOrderOkWrong : ChangeSpec := { name := "fnExactOrderOk", fn := fun _ => fun
  | [d1, d2] => { results := [.lit (.bool false)], args := [d1, d2] }
  | _ => none }
def FnExactOrderOkWrongFalsely : Prop := fnExactOrderOkRow.holds Try.pinned (OpenSpec.ofChange fnExactOrderOkWrong)

/-- 'laws.FnExactFlowEnds': WHATEVER THE INPUT: true; the input reads as it did. -/
def fnExactFlowEndsSpec : ChangeSpec := { name := "fnExactFlowEnds", fn := fun _ => fun
  | [d1, d2] => { results := [.lit (.bool true)], args := [d1, d2] }
  | _ => none }
def fnExactFlowEndsRow : OpenClaim := { program := "ytcdcndliooehnaa", sum := "121d6d7c06bc8557b701304f82d6fd13911c0baf8cc8cfd5f4a833b8d2e315c1", func := "loop.example/restaurantkitchen/laws.FnExactFlowEnds", spec := "fnExactFlowEnds", apart := false }
def FnExactFlowEndsSaid : Prop := fnExactFlowEndsRow.holds Try.pinned (OpenSpec.ofChange fnExactFlowEndsSpec)

/-- ITS FALSE NEIGHBOUR: 'it returns false'. Refute it at one input. -/
def fnExactFlowEndsWrong : ChangeSpec := { name := "fnExactFlowEnds", fn := fun _ => fun
  | [d1, d2] => { results := [.lit (.bool false)], args := [d1, d2] }
  | _ => none }
def FnExactFlowEndsWrongFalsely : Prop := fnExactFlowEndsRow.holds Try.pinned (OpenSpec.ofChange fnExactFlowEndsWrong)

/-- 'laws.FnExactFlowEnd': WHATEVER THE INPUT: true; the input reads as it did. -/
def fnExactFlowEndSpec : ChangeSpec := { name := "fnExactFlowEnd", fn := fun _ => fun
  | [d1, d2] => { results := [.lit (.bool true)], args := [d1, d2] }
  | _ => none }
def fnExactFlowEndRow : OpenClaim := { program := "ytcdcndliooehnaa", sum := "121d6d7c06bc8557b701304f82d6fd13911c0baf8cc8cfd5f4a833b8d2e315c1", func := "loop.example/restaurantkitchen/laws.FnExactFlowEnd", spec := "fnExactFlowEnd", apart := false }
def FnExactFlowEndSaid : Prop := fnExactFlowEndRow.holds Try.pinned (OpenSpec.ofChange fnExactFlowEndSpec)

/-- ITS FALSE NEIGHBOUR: 'it returns false'. Refute it at one input. -/
def fnExactFlowEndWrong : ChangeSpec := { name := "fnExactFlowEnd", fn := fun _ => fun
  | [d1, d2] => { results := [.lit (.bool false)], args := [d1, d2] }
  | _ => none }
def FnExactFlowEndWrongFalsely : Prop := fnExactFlowEndRow.holds Try.pinned (OpenSpec.ofChange fnExactFlowEndWrong)

/-- 'laws.FnExactFlowBest': WHATEVER THE INPUT: true; the input reads as it did. -/
def fnExactFlowBestSpec : ChangeSpec := { name := "fnExactFlowBest", fn := fun _ => fun
  | [d] => { results := [.lit (.bool true)], args := [d] }
  | _ => none }
def fnExactFlowBestRow : OpenClaim := { program := "ytcdcndliooehnaa", sum := "121d6d7c06bc8557b701304f82d6fd13911c0baf8cc8cfd5f4a833b8d2e315c1", func := "loop.example/restaurantkitchen/laws.FnExactFlowBest", spec := "fnExactFlowBest", unfollowed := true, recurses := true, apart := false }
def FnExactFlowBestSaid : Prop := fnExactFlowBestRow.holds Try.pinned (OpenSpec.ofChange fnExactFlowBestSpec)

/-- ITS FALSE NEIGHBOUR: 'it returns false'. Refute it at one input. -/
def fnExactFlowBestWrong : ChangeSpec := { name := "fnExactFlowBest", fn := fun _ => fun
  | [d] => { results := [.lit (.bool false)], args := [d] }
  | _ => none }
def FnExactFlowBestWrongFalsely : Prop := fnExactFlowBestRow.holds Try.pinned (OpenSpec.ofChange fnExactFlowBestWrong)

/-- 'laws.FnExactFlowLeast': WHATEVER THE INPUT: true; the input reads as it did. -/
def fnExactFlowLeastSpec : ChangeSpec := { name := "fnExactFlowLeast", fn := fun _ => fun
  | [d] => { results := [.lit (.bool true)], args := [d] }
  | _ => none }
def fnExactFlowLeastRow : OpenClaim := { program := "ytcdcndliooehnaa", sum := "121d6d7c06bc8557b701304f82d6fd13911c0baf8cc8cfd5f4a833b8d2e315c1", func := "loop.example/restaurantkitchen/laws.FnExactFlowLeast", spec := "fnExactFlowLeast", unfollowed := true, recurses := true, apart := false }
def FnExactFlowLeastSaid : Prop := fnExactFlowLeastRow.holds Try.pinned (OpenSpec.ofChange fnExactFlowLeastSpec)

/-- ITS FALSE NEIGHBOUR: 'it returns false'. Refute it at one input. -/
def fnExactFlowLeastWrong : ChangeSpec := { name := "fnExactFlowLeast", fn := fun _ => fun
  | [d] => { results := [.lit (.bool false)], args := [d] }
  | _ => none }
def FnExactFlowLeastWrongFalsely : Prop := fnExactFlowLeastRow.holds Try.pinned (OpenSpec.ofChange fnExactFlowLeastWrong)

/-- 'laws.FnExactSpansValid': WHATEVER THE INPUT: true; the input reads as it did. -/
def fnExactSpansValidSpec : ChangeSpec := { name := "fnExactSpansValid", fn := fun _ => fun
  | [d] => { results := [.lit (.bool true)], args := [d] }
  | _ => none }
def fnExactSpansValidRow : OpenClaim := { program := "ytcdcndliooehnaa", sum := "121d6d7c06bc8557b701304f82d6fd13911c0baf8cc8cfd5f4a833b8d2e315c1", func := "loop.example/restaurantkitchen/laws.FnExactSpansValid", spec := "fnExactSpansValid", apart := false }
def FnExactSpansValidSaid : Prop := fnExactSpansValidRow.holds Try.pinned (OpenSpec.ofChange fnExactSpansValidSpec)

/-- ITS FALSE NEIGHBOUR: 'it returns false'. Refute it at one input. -/
def fnExactSpansValidWrong : ChangeSpec := { name := "fnExactSpansValid", fn := fun _ => fun
  | [d] => { results := [.lit (.bool false)], args := [d] }
  | _ => none }
def FnExactSpansValidWrongFalsely : Prop := fnExactSpansValidRow.holds Try.pinned (OpenSpec.ofChange fnExactSpansValidWrong)

/-- 'laws.FnExactBurnOk': WHATEVER THE INPUT: true; the input reads as it did. -/
def fnExactBurnOkSpec : ChangeSpec := { name := "fnExactBurnOk", fn := fun _ => fun
  | [d1, d2, d3] => { results := [.lit (.bool true)], args := [d1, d2, d3] }
  | _ => none }
def fnExactBurnOkRow : OpenClaim := { program := "ytcdcndliooehnaa", sum := "121d6d7c06bc8557b701304f82d6fd13911c0baf8cc8cfd5f4a833b8d2e315c1", func := "loop.example/restaurantkitchen/laws.FnExactBurnOk", spec := "fnExactBurnOk", apart := false }
def FnExactBurnOkSaid : Prop := fnExactBurnOkRow.holds Try.pinned (OpenSpec.ofChange fnExactBurnOkSpec)

/-- ITS FALSE NEIGHBOUR: 'it returns false'. Refute it at one input. -/
def fnExactBurnOkWrong : ChangeSpec := { name := "fnExactBurnOk", fn := fun _ => fun
  | [d1, d2, d3] => { results := [.lit (.bool false)], args := [d1, d2, d3] }
  | _ => none }
def FnExactBurnOkWrongFalsely : Prop := fnExactBurnOkRow.holds Try.pinned (OpenSpec.ofChange fnExactBurnOkWrong)

/-- 'laws.FnExactBurnEnd': WHATEVER THE INPUT: true; the input reads as it did. -/
def fnExactBurnEndSpec : ChangeSpec := { name := "fnExactBurnEnd", fn := fun _ => fun
  | [d1, d2, d3] => { results := [.lit (.bool true)], args := [d1, d2, d3] }
  | _ => none }
def fnExactBurnEndRow : OpenClaim := { program := "ytcdcndliooehnaa", sum := "121d6d7c06bc8557b701304f82d6fd13911c0baf8cc8cfd5f4a833b8d2e315c1", func := "loop.example/restaurantkitchen/laws.FnExactBurnEnd", spec := "fnExactBurnEnd", apart := false }
def FnExactBurnEndSaid : Prop := fnExactBurnEndRow.holds Try.pinned (OpenSpec.ofChange fnExactBurnEndSpec)

/-- ITS FALSE NEIGHBOUR: 'it returns false'. Refute it at one input. -/
def fnExactBurnEndWrong : ChangeSpec := { name := "fnExactBurnEnd", fn := fun _ => fun
  | [d1, d2, d3] => { results := [.lit (.bool false)], args := [d1, d2, d3] }
  | _ => none }
def FnExactBurnEndWrongFalsely : Prop := fnExactBurnEndRow.holds Try.pinned (OpenSpec.ofChange fnExactBurnEndWrong)

/-- 'laws.FnExactBurnList': WHATEVER THE INPUT: true; the input reads as it did. -/
def fnExactBurnListSpec : ChangeSpec := { name := "fnExactBurnList", fn := fun _ => fun
  | [d1, d2] => { results := [.lit (.bool true)], args := [d1, d2] }
  | _ => none }
def fnExactBurnListRow : OpenClaim := { program := "ytcdcndliooehnaa", sum := "121d6d7c06bc8557b701304f82d6fd13911c0baf8cc8cfd5f4a833b8d2e315c1", func := "loop.example/restaurantkitchen/laws.FnExactBurnList", spec := "fnExactBurnList", apart := false }
def FnExactBurnListSaid : Prop := fnExactBurnListRow.holds Try.pinned (OpenSpec.ofChange fnExactBurnListSpec)

/-- ITS FALSE NEIGHBOUR: 'it returns false'. Refute it at one input. -/
def fnExactBurnListWrong : ChangeSpec := { name := "fnExactBurnList", fn := fun _ => fun
  | [d1, d2] => { results := [.lit (.bool false)], args := [d1, d2] }
  | _ => none }
def FnExactBurnListWrongFalsely : Prop := fnExactBurnListRow.holds Try.pinned (OpenSpec.ofChange fnExactBurnListWrong)

/-- 'laws.FnExactBurnLeast': WHATEVER THE INPUT: true; the input reads as it did. -/
def fnExactBurnLeastSpec : ChangeSpec := { name := "fnExactBurnLeast", fn := fun _ => fun
  | [d1, d2] => { results := [.lit (.bool true)], args := [d1, d2] }
  | _ => none }
def fnExactBurnLeastRow : OpenClaim := { program := "ytcdcndliooehnaa", sum := "121d6d7c06bc8557b701304f82d6fd13911c0baf8cc8cfd5f4a833b8d2e315c1", func := "loop.example/restaurantkitchen/laws.FnExactBurnLeast", spec := "fnExactBurnLeast", recurses := true, apart := false }
def FnExactBurnLeastSaid : Prop := fnExactBurnLeastRow.holds Try.pinned (OpenSpec.ofChange fnExactBurnLeastSpec)

/-- ITS FALSE NEIGHBOUR: 'it returns false'. Refute it at one input. -/
def fnExactBurnLeastWrong : ChangeSpec := { name := "fnExactBurnLeast", fn := fun _ => fun
  | [d1, d2] => { results := [.lit (.bool false)], args := [d1, d2] }
  | _ => none }
def FnExactBurnLeastWrongFalsely : Prop := fnExactBurnLeastRow.holds Try.pinned (OpenSpec.ofChange fnExactBurnLeastWrong)

/-- 'laws.FnExactTogetherWaits': WHATEVER THE INPUT: true; the input reads as it did. -/
def fnExactTogetherWaitsSpec : ChangeSpec := { name := "fnExactTogetherWaits", fn := fun _ => fun
  | [d1, d2] => { results := [.lit (.bool true)], args := [d1, d2] }
  | _ => none }
def fnExactTogetherWaitsRow : OpenClaim := { program := "ytcdcndliooehnaa", sum := "121d6d7c06bc8557b701304f82d6fd13911c0baf8cc8cfd5f4a833b8d2e315c1", func := "loop.example/restaurantkitchen/laws.FnExactTogetherWaits", spec := "fnExactTogetherWaits", apart := false }
def FnExactTogetherWaitsSaid : Prop := fnExactTogetherWaitsRow.holds Try.pinned (OpenSpec.ofChange fnExactTogetherWaitsSpec)

/-- ITS FALSE NEIGHBOUR: 'it returns false'. Refute it at one input. -/
def fnExactTogetherWaitsWrong : ChangeSpec := { name := "fnExactTogetherWaits", fn := fun _ => fun
  | [d1, d2] => { results := [.lit (.bool false)], args := [d1, d2] }
  | _ => none }
def FnExactTogetherWaitsWrongFalsely : Prop := fnExactTogetherWaitsRow.holds Try.pinned (OpenSpec.ofChange fnExactTogetherWaitsWrong)

/- THE SECOND FORM. 'bulk': how many values and letters a reading holds, each counted each time it is reached (what is shared counts as often as it is met; a slice's spare places count too). A statement '..UptoSaid' is the law's where the arguments, and the package variables that the reading takes, are together of bulk at most 1048576: NARROWER than '..Said'. Prove '..Said' where nothing that the law and all that it calls make is longer than what came in: it says more and counts as full. Else prove '..UptoSaid'. A law counts once. -/
mutual
def uptoBulk {H : Type} : DataW H → Nat
  | .lit (.string bytes) => bytes.length + 1
  | .lit _ => 1
  | .nil => 1
  | .ptr d => uptoBulk d + 1
  | .slice elems spare => uptoBulkAll elems + uptoBulkAll spare + 1
  | .agg parts => uptoBulkAll parts + 1
  | .iface _ d => uptoBulk d + 1
  | .map entries => uptoBulkEntries entries + 1
  | .held _ => 1
def uptoBulkAll {H : Type} : List (DataW H) → Nat
  | [] => 0
  | d :: r => uptoBulk d + uptoBulkAll r
def uptoBulkEntries {H : Type} : List (Lit × DataW H) → Nat
  | [] => 0
  | x :: r => uptoBulkEntry x + uptoBulkEntries r
def uptoBulkEntry {H : Type} : Lit × DataW H → Nat
  | (.string bytes, d) => bytes.length + uptoBulk d + 1
  | (_, d) => uptoBulk d + 1
 end
def uptoSmall : (H : Type) → List (DataW H) → Bool := fun _ ds => decide (uptoBulkAll ds ≤ 1048576)
def OpenSpec.upto (s : _root_.Go.ChangeSpec) : _root_.Go.OpenSpec := { _root_.Go.OpenSpec.ofChange s with cond := some uptoSmall }

/-- 'laws.FnExactDishesValid', WHERE WHAT IT READS IS OF BULK AT MOST 1048576: true; the input reads as it did. -/
def fnExactDishesValidUptoRow : OpenClaim := { program := "ytcdcndliooehnaa", sum := "121d6d7c06bc8557b701304f82d6fd13911c0baf8cc8cfd5f4a833b8d2e315c1", func := "loop.example/restaurantkitchen/laws.FnExactDishesValid", spec := "fnExactDishesValid", apart := false, narrowed := true }
def FnExactDishesValidUptoSaid : Prop := fnExactDishesValidUptoRow.holds Try.pinned (OpenSpec.upto fnExactDishesValidSpec)

/-- 'laws.FnExactOrderOk', WHERE WHAT IT READS IS OF BULK AT MOST 1048576: true; the input reads as it did. -/
def fnExactOrderOkUptoRow : OpenClaim := { program := "ytcdcndliooehnaa", sum := "121d6d7c06bc8557b701304f82d6fd13911c0baf8cc8cfd5f4a833b8d2e315c1", func := "loop.example/restaurantkitchen/laws.FnExactOrderOk", spec := "fnExactOrderOk", apart := false, narrowed := true }
def FnExactOrderOkUptoSaid : Prop := fnExactOrderOkUptoRow.holds Try.pinned (OpenSpec.upto fnExactOrderOkSpec)

/-- 'laws.FnExactFlowEnds', WHERE WHAT IT READS IS OF BULK AT MOST 1048576: true; the input reads as it did. -/
def fnExactFlowEndsUptoRow : OpenClaim := { program := "ytcdcndliooehnaa", sum := "121d6d7c06bc8557b701304f82d6fd13911c0baf8cc8cfd5f4a833b8d2e315c1", func := "loop.example/restaurantkitchen/laws.FnExactFlowEnds", spec := "fnExactFlowEnds", apart := false, narrowed := true }
def FnExactFlowEndsUptoSaid : Prop := fnExactFlowEndsUptoRow.holds Try.pinned (OpenSpec.upto fnExactFlowEndsSpec)

/-- 'laws.FnExactFlowEnd', WHERE WHAT IT READS IS OF BULK AT MOST 1048576: true; the input reads as it did. -/
def fnExactFlowEndUptoRow : OpenClaim := { program := "ytcdcndliooehnaa", sum := "121d6d7c06bc8557b701304f82d6fd13911c0baf8cc8cfd5f4a833b8d2e315c1", func := "loop.example/restaurantkitchen/laws.FnExactFlowEnd", spec := "fnExactFlowEnd", apart := false, narrowed := true }
def FnExactFlowEndUptoSaid : Prop := fnExactFlowEndUptoRow.holds Try.pinned (OpenSpec.upto fnExactFlowEndSpec)

/-- 'laws.FnExactFlowBest', WHERE WHAT IT READS IS OF BULK AT MOST 1048576: true; the input reads as it did. -/
def fnExactFlowBestUptoRow : OpenClaim := { program := "ytcdcndliooehnaa", sum := "121d6d7c06bc8557b701304f82d6fd13911c0baf8cc8cfd5f4a833b8d2e315c1", func := "loop.example/restaurantkitchen/laws.FnExactFlowBest", spec := "fnExactFlowBest", unfollowed := true, recurses := true, apart := false, narrowed := true }
def FnExactFlowBestUptoSaid : Prop := fnExactFlowBestUptoRow.holds Try.pinned (OpenSpec.upto fnExactFlowBestSpec)

/-- 'laws.FnExactFlowLeast', WHERE WHAT IT READS IS OF BULK AT MOST 1048576: true; the input reads as it did. -/
def fnExactFlowLeastUptoRow : OpenClaim := { program := "ytcdcndliooehnaa", sum := "121d6d7c06bc8557b701304f82d6fd13911c0baf8cc8cfd5f4a833b8d2e315c1", func := "loop.example/restaurantkitchen/laws.FnExactFlowLeast", spec := "fnExactFlowLeast", unfollowed := true, recurses := true, apart := false, narrowed := true }
def FnExactFlowLeastUptoSaid : Prop := fnExactFlowLeastUptoRow.holds Try.pinned (OpenSpec.upto fnExactFlowLeastSpec)

/-- 'laws.FnExactSpansValid', WHERE WHAT IT READS IS OF BULK AT MOST 1048576: true; the input reads as it did. -/
def fnExactSpansValidUptoRow : OpenClaim := { program := "ytcdcndliooehnaa", sum := "121d6d7c06bc8557b701304f82d6fd13911c0baf8cc8cfd5f4a833b8d2e315c1", func := "loop.example/restaurantkitchen/laws.FnExactSpansValid", spec := "fnExactSpansValid", apart := false, narrowed := true }
def FnExactSpansValidUptoSaid : Prop := fnExactSpansValidUptoRow.holds Try.pinned (OpenSpec.upto fnExactSpansValidSpec)

/-- 'laws.FnExactBurnOk', WHERE WHAT IT READS IS OF BULK AT MOST 1048576: true; the input reads as it did. -/
def fnExactBurnOkUptoRow : OpenClaim := { program := "ytcdcndliooehnaa", sum := "121d6d7c06bc8557b701304f82d6fd13911c0baf8cc8cfd5f4a833b8d2e315c1", func := "loop.example/restaurantkitchen/laws.FnExactBurnOk", spec := "fnExactBurnOk", apart := false, narrowed := true }
def FnExactBurnOkUptoSaid : Prop := fnExactBurnOkUptoRow.holds Try.pinned (OpenSpec.upto fnExactBurnOkSpec)

/-- 'laws.FnExactBurnEnd', WHERE WHAT IT READS IS OF BULK AT MOST 1048576: true; the input reads as it did. -/
def fnExactBurnEndUptoRow : OpenClaim := { program := "ytcdcndliooehnaa", sum := "121d6d7c06bc8557b701304f82d6fd13911c0baf8cc8cfd5f4a833b8d2e315c1", func := "loop.example/restaurantkitchen/laws.FnExactBurnEnd", spec := "fnExactBurnEnd", apart := false, narrowed := true }
def FnExactBurnEndUptoSaid : Prop := fnExactBurnEndUptoRow.holds Try.pinned (OpenSpec.upto fnExactBurnEndSpec)

/-- 'laws.FnExactBurnList', WHERE WHAT IT READS IS OF BULK AT MOST 1048576: true; the input reads as it did. -/
def fnExactBurnListUptoRow : OpenClaim := { program := "ytcdcndliooehnaa", sum := "121d6d7c06bc8557b701304f82d6fd13911c0baf8cc8cfd5f4a833b8d2e315c1", func := "loop.example/restaurantkitchen/laws.FnExactBurnList", spec := "fnExactBurnList", apart := false, narrowed := true }
def FnExactBurnListUptoSaid : Prop := fnExactBurnListUptoRow.holds Try.pinned (OpenSpec.upto fnExactBurnListSpec)

/-- 'laws.FnExactBurnLeast', WHERE WHAT IT READS IS OF BULK AT MOST 1048576: true; the input reads as it did. -/
def fnExactBurnLeastUptoRow : OpenClaim := { program := "ytcdcndliooehnaa", sum := "121d6d7c06bc8557b701304f82d6fd13911c0baf8cc8cfd5f4a833b8d2e315c1", func := "loop.example/restaurantkitchen/laws.FnExactBurnLeast", spec := "fnExactBurnLeast", recurses := true, apart := false, narrowed := true }
def FnExactBurnLeastUptoSaid : Prop := fnExactBurnLeastUptoRow.holds Try.pinned (OpenSpec.upto fnExactBurnLeastSpec)

/-- 'laws.FnExactTogetherWaits', WHERE WHAT IT READS IS OF BULK AT MOST 1048576: true; the input reads as it did. -/
def fnExactTogetherWaitsUptoRow : OpenClaim := { program := "ytcdcndliooehnaa", sum := "121d6d7c06bc8557b701304f82d6fd13911c0baf8cc8cfd5f4a833b8d2e315c1", func := "loop.example/restaurantkitchen/laws.FnExactTogetherWaits", spec := "fnExactTogetherWaits", apart := false, narrowed := true }
def FnExactTogetherWaitsUptoSaid : Prop := fnExactTogetherWaitsUptoRow.holds Try.pinned (OpenSpec.upto fnExactTogetherWaitsSpec)

end Rows
end Go.Proofs.Ytcdcndliooehnaa
