/-
  No cell of these rows narrows 'for every input' (looked for: loops, veiled, ifaces, maps, wideKeys, modest, calm, conditions, laid).
  DERIVED. THE GIVEN ROWS OF THIS SEAT. 4 by the template 'for every input the law returns true; each argument reads behind the call as it read before'; 0 by the template 'total and deterministic' (their statements: YtgagfaajilbmmaaTotals.lean).
  GIVEN WITH THE SEED: the statements are not yours to turn. If you find one false, say at which input.
  Laid BY PROGRAM, IN A SANDBOX (cutbox-rows.mjs): the forced cells as the released guide's own fill.sh prints them over the translation 7afb78a4f735e60f… (all of the seat's roots in one cut). By AI agents, Wed Nov 11 2026. No macro, syntax, notation, axiom, sorry.
-/
import Derived.Test.YtgagfaajilbmmaaChecked
import GoSem.Claim
import GoSem.ClaimJoined
import GoSem.ClaimMapViews
import Derived.JoinedTies
import Derived.KernelRfl
namespace Go.Proofs.Ytgagfaajilbmmaa
/- THE CELL 'sum', in the pinned program and in every row, IS THE sha256 OF THE DUMP (.gsa) THAT YtgagfaajilbmmaaProg.lean LOADS. Nothing in Lean hashes anything: it is a label: what it is worth is what the hold of that sum in a sandbox is worth. -/
noncomputable def Try.pinned : Pinned := { name := "ytgagfaajilbmmaa", sum := "7afb78a4f735e60f561e361094ea75b66508955026e1a14c7caa4e9caf4d6d5d", checked := Try.checked }
namespace Rows
def none {H : Type} : Left H := { results := [], args := [] }

/-- 'laws.FnExactUnitCost': WHATEVER THE INPUT: true; the input reads as it did. -/
def fnExactUnitCostSpec : ChangeSpec := { name := "fnExactUnitCost", fn := fun _ => fun
  | [d1, d2, d3] => { results := [.lit (.bool true)], args := [d1, d2, d3] }
  | _ => none }
def fnExactUnitCostRow : OpenClaim := { program := "ytgagfaajilbmmaa", sum := "7afb78a4f735e60f561e361094ea75b66508955026e1a14c7caa4e9caf4d6d5d", func := "loop.example/restaurantkitchen/laws.FnExactUnitCost", spec := "fnExactUnitCost", apart := false }
def FnExactUnitCostSaid : Prop := fnExactUnitCostRow.holds Try.pinned (OpenSpec.ofChange fnExactUnitCostSpec)

/-- ITS FALSE NEIGHBOUR: 'it returns false'. Refute it at one input. -/
def fnExactUnitCostWrong : ChangeSpec := { name := "fnExactUnitCost", fn := fun _ => fun
  | [d1, d2, d3] => { results := [.lit (.bool false)], args := [d1, d2, d3] }
  | _ => none }
def FnExactUnitCostWrongFalsely : Prop := fnExactUnitCostRow.holds Try.pinned (OpenSpec.ofChange fnExactUnitCostWrong)

/-- 'laws.FnExactStartsLate': WHATEVER THE INPUT: true; the input reads as it did. -/
def fnExactStartsLateSpec : ChangeSpec := { name := "fnExactStartsLate", fn := fun _ => fun
  | [d] => { results := [.lit (.bool true)], args := [d] }
  | _ => none }
def fnExactStartsLateRow : OpenClaim := { program := "ytgagfaajilbmmaa", sum := "7afb78a4f735e60f561e361094ea75b66508955026e1a14c7caa4e9caf4d6d5d", func := "loop.example/restaurantkitchen/laws.FnExactStartsLate", spec := "fnExactStartsLate", unfollowed := true, recurses := true, apart := false }
def FnExactStartsLateSaid : Prop := fnExactStartsLateRow.holds Try.pinned (OpenSpec.ofChange fnExactStartsLateSpec)

/-- ITS FALSE NEIGHBOUR: 'it returns false'. Refute it at one input. -/
def fnExactStartsLateWrong : ChangeSpec := { name := "fnExactStartsLate", fn := fun _ => fun
  | [d] => { results := [.lit (.bool false)], args := [d] }
  | _ => none }
def FnExactStartsLateWrongFalsely : Prop := fnExactStartsLateRow.holds Try.pinned (OpenSpec.ofChange fnExactStartsLateWrong)

/-- 'laws.FnExactLongestWay': WHATEVER THE INPUT: true; the input reads as it did. -/
def fnExactLongestWaySpec : ChangeSpec := { name := "fnExactLongestWay", fn := fun _ => fun
  | [d] => { results := [.lit (.bool true)], args := [d] }
  | _ => none }
def fnExactLongestWayRow : OpenClaim := { program := "ytgagfaajilbmmaa", sum := "7afb78a4f735e60f561e361094ea75b66508955026e1a14c7caa4e9caf4d6d5d", func := "loop.example/restaurantkitchen/laws.FnExactLongestWay", spec := "fnExactLongestWay", apart := false }
def FnExactLongestWaySaid : Prop := fnExactLongestWayRow.holds Try.pinned (OpenSpec.ofChange fnExactLongestWaySpec)

/-- ITS FALSE NEIGHBOUR: 'it returns false'. Refute it at one input. -/
def fnExactLongestWayWrong : ChangeSpec := { name := "fnExactLongestWay", fn := fun _ => fun
  | [d] => { results := [.lit (.bool false)], args := [d] }
  | _ => none }
def FnExactLongestWayWrongFalsely : Prop := fnExactLongestWayRow.holds Try.pinned (OpenSpec.ofChange fnExactLongestWayWrong)

/-- 'laws.FnExactGroupsMost': WHATEVER THE INPUT: true; the input reads as it did. -/
def fnExactGroupsMostSpec : ChangeSpec := { name := "fnExactGroupsMost", fn := fun _ => fun
  | [d] => { results := [.lit (.bool true)], args := [d] }
  | _ => none }
def fnExactGroupsMostRow : OpenClaim := { program := "ytgagfaajilbmmaa", sum := "7afb78a4f735e60f561e361094ea75b66508955026e1a14c7caa4e9caf4d6d5d", func := "loop.example/restaurantkitchen/laws.FnExactGroupsMost", spec := "fnExactGroupsMost", apart := false }
def FnExactGroupsMostSaid : Prop := fnExactGroupsMostRow.holds Try.pinned (OpenSpec.ofChange fnExactGroupsMostSpec)

/-- ITS FALSE NEIGHBOUR: 'it returns false'. Refute it at one input. -/
def fnExactGroupsMostWrong : ChangeSpec := { name := "fnExactGroupsMost", fn := fun _ => fun
  | [d] => { results := [.lit (.bool false)], args := [d] }
  | _ => none }
def FnExactGroupsMostWrongFalsely : Prop := fnExactGroupsMostRow.holds Try.pinned (OpenSpec.ofChange fnExactGroupsMostWrong)

/- THE SECOND FORM. 'bulk': how many values and letters a reading holds, each counted each time it is reached (what is shared counts as often as it is met; a slice's spare places count too). A statement '..UptoSaid' is the law's where the arguments, and the package variables that the reading takes, are together of bulk at most 1048576: NARROWER than '..Said'. Prove '..Said' where nothing that the law and all that it calls make is longer than what came in: it says more and counts as full. Else prove '..UptoSaid'. A law counts once. -/
mutual
def uptoBulk {H : Type} : DataW H → Nat
  | .lit (.string bytes) => bytes.length + 1
  | .lit _ => 1
  | .nil => 1
  | .ptr d => uptoBulk d + 1
  | .slice elems spare => uptoBulkAll elems + uptoBulkAll spare + 1
  | .agg parts => uptoBulkAll parts + 1
  | .iface _ d => uptoBulk d + 1
  | .map entries => uptoBulkEntries entries + 1
  | .held _ => 1
def uptoBulkAll {H : Type} : List (DataW H) → Nat
  | [] => 0
  | d :: r => uptoBulk d + uptoBulkAll r
def uptoBulkEntries {H : Type} : List (Lit × DataW H) → Nat
  | [] => 0
  | x :: r => uptoBulkEntry x + uptoBulkEntries r
def uptoBulkEntry {H : Type} : Lit × DataW H → Nat
  | (.string bytes, d) => bytes.length + uptoBulk d + 1
  | (_, d) => uptoBulk d + 1
 end
def uptoSmall : (H : Type) → List (DataW H) → Bool := fun _ ds => decide (uptoBulkAll ds ≤ 1048576)
def OpenSpec.upto (s : _root_.Go.ChangeSpec) : _root_.Go.OpenSpec := { _root_.Go.OpenSpec.ofChange s with cond := some uptoSmall }

/-- 'laws.FnExactUnitCost', WHERE WHAT IT READS IS OF BULK AT MOST 1048576: true; the input reads as it did. -/
def fnExactUnitCostUptoRow : OpenClaim := { program := "ytgagfaajilbmmaa", sum := "7afb78a4f735e60f561e361094ea75b66508955026e1a14c7caa4e9caf4d6d5d", func := "loop.example/restaurantkitchen/laws.FnExactUnitCost", spec := "fnExactUnitCost", apart := false, narrowed := true }
def FnExactUnitCostUptoSaid : Prop := fnExactUnitCostUptoRow.holds Try.pinned (OpenSpec.upto fnExactUnitCostSpec)

/-- 'laws.FnExactStartsLate', WHERE WHAT IT READS IS OF BULK AT MOST 1048576: true; the input reads as it did. -/
def fnExactStartsLateUptoRow : OpenClaim := { program := "ytgagfaajilbmmaa", sum := "7afb78a4f735e60f561e361094ea75b66508955026e1a14c7caa4e9caf4d6d5d", func := "loop.example/restaurantkitchen/laws.FnExactStartsLate", spec := "fnExactStartsLate", unfollowed := true, recurses := true, apart := false, narrowed := true }
def FnExactStartsLateUptoSaid : Prop := fnExactStartsLateUptoRow.holds Try.pinned (OpenSpec.upto fnExactStartsLateSpec)

/-- 'laws.FnExactLongestWay', WHERE WHAT IT READS IS OF BULK AT MOST 1048576: true; the input reads as it did. -/
def fnExactLongestWayUptoRow : OpenClaim := { program := "ytgagfaajilbmmaa", sum := "7afb78a4f735e60f561e361094ea75b66508955026e1a14c7caa4e9caf4d6d5d", func := "loop.example/restaurantkitchen/laws.FnExactLongestWay", spec := "fnExactLongestWay", apart := false, narrowed := true }
def FnExactLongestWayUptoSaid : Prop := fnExactLongestWayUptoRow.holds Try.pinned (OpenSpec.upto fnExactLongestWaySpec)

/-- 'laws.FnExactGroupsMost', WHERE WHAT IT READS IS OF BULK AT MOST 1048576: true; the input reads as it did. -/
def fnExactGroupsMostUptoRow : OpenClaim := { program := "ytgagfaajilbmmaa", sum := "7afb78a4f735e60f561e361094ea75b66508955026e1a14c7caa4e9caf4d6d5d", func := "loop.example/restaurantkitchen/laws.FnExactGroupsMost", spec := "fnExactGroupsMost", apart := false, narrowed := true }
def FnExactGroupsMostUptoSaid : Prop := fnExactGroupsMostUptoRow.holds Try.pinned (OpenSpec.upto fnExactGroupsMostSpec)

end Rows
end Go.Proofs.Ytgagfaajilbmmaa
