/-
  No cell of these rows narrows 'for every input' (looked for: loops, veiled, ifaces, maps, wideKeys, modest, calm, conditions, laid).
  DERIVED. THE GIVEN ROWS OF THIS SEAT. 5 by the template 'for every input the law returns true; each argument reads behind the call as it read before'; 0 by the template 'total and deterministic' (their statements: YteloapholoechabTotals.lean).
  GIVEN WITH THE SEED: the statements are not yours to turn. If you find one false, say at which input.
  Laid BY PROGRAM, IN A SANDBOX (cutbox-rows.mjs): the forced cells as the released guide's own fill.sh prints them over the translation 7e47d7e566e6c274… (all of the seat's roots in one cut). By AI agents, Wed Nov 11 2026. No macro, syntax, notation, axiom, sorry.
-/
import Derived.Test.YteloapholoechabChecked
import GoSem.Claim
import GoSem.ClaimJoined
import GoSem.ClaimMapViews
import Derived.JoinedTies
import Derived.KernelRfl
namespace Go.Proofs.Yteloapholoechab
/- THE CELL 'sum', in the pinned program and in every row, IS THE sha256 OF THE DUMP (.gsa) THAT YteloapholoechabProg.lean LOADS. Nothing in Lean hashes anything: it is a label: what it is worth is what the hold of that sum in a sandbox is worth. -/
noncomputable def Try.pinned : Pinned := { name := "yteloapholoechab", sum := "7e47d7e566e6c274b52ec4b5fcbde63f69e1a013c69cd53aaf19d79ada27ae12", checked := Try.checked }
namespace Rows
def none {H : Type} : Left H := { results := [], args := [] }

/-- 'laws.FnExactFlowBest': WHATEVER THE INPUT: true; the input reads as it did. -/
def fnExactFlowBestSpec : ChangeSpec := { name := "fnExactFlowBest", fn := fun _ => fun
  | [d] => { results := [.lit (.bool true)], args := [d] }
  | _ => none }
def fnExactFlowBestRow : OpenClaim := { program := "yteloapholoechab", sum := "7e47d7e566e6c274b52ec4b5fcbde63f69e1a013c69cd53aaf19d79ada27ae12", func := "loop.example/restaurantkitchen/laws.FnExactFlowBest", spec := "fnExactFlowBest", unfollowed := true, recurses := true, apart := false }
def FnExactFlowBestSaid : Prop := fnExactFlowBestRow.holds Try.pinned (OpenSpec.ofChange fnExactFlowBestSpec)

/-- ITS FALSE NEIGHBOUR: 'it returns false'. Refute it at one input. -/
def fnExactFlowBestWrong : ChangeSpec := { name := "fnExactFlowBest", fn := fun _ => fun
  | [d] => { results := [.lit (.bool false)], args := [d] }
  | _ => none }
def FnExactFlowBestWrongFalsely : Prop := fnExactFlowBestRow.holds Try.pinned (OpenSpec.ofChange fnExactFlowBestWrong)

/-- 'laws.FnExactFlowLeast': WHATEVER THE INPUT: true; the input reads as it did. -/
def fnExactFlowLeastSpec : ChangeSpec := { name := "fnExactFlowLeast", fn := fun _ => fun
  | [d] => { results := [.lit (.bool true)], args := [d] }
  | _ => none }
def fnExactFlowLeastRow : OpenClaim := { program := "yteloapholoechab", sum := "7e47d7e566e6c274b52ec4b5fcbde63f69e1a013c69cd53aaf19d79ada27ae12", func := "loop.example/restaurantkitchen/laws.FnExactFlowLeast", spec := "fnExactFlowLeast", unfollowed := true, recurses := true, apart := false }
def FnExactFlowLeastSaid : Prop := fnExactFlowLeastRow.holds Try.pinned (OpenSpec.ofChange fnExactFlowLeastSpec)

/-- ITS FALSE NEIGHBOUR: 'it returns false'. Refute it at one input. -/
def fnExactFlowLeastWrong : ChangeSpec := { name := "fnExactFlowLeast", fn := fun _ => fun
  | [d] => { results := [.lit (.bool false)], args := [d] }
  | _ => none }
def FnExactFlowLeastWrongFalsely : Prop := fnExactFlowLeastRow.holds Try.pinned (OpenSpec.ofChange fnExactFlowLeastWrong)

/-- 'laws.FnExactBurnLeast': WHATEVER THE INPUT: true; the input reads as it did. -/
def fnExactBurnLeastSpec : ChangeSpec := { name := "fnExactBurnLeast", fn := fun _ => fun
  | [d1, d2] => { results := [.lit (.bool true)], args := [d1, d2] }
  | _ => none }
def fnExactBurnLeastRow : OpenClaim := { program := "yteloapholoechab", sum := "7e47d7e566e6c274b52ec4b5fcbde63f69e1a013c69cd53aaf19d79ada27ae12", func := "loop.example/restaurantkitchen/laws.FnExactBurnLeast", spec := "fnExactBurnLeast", recurses := true, apart := false }
def FnExactBurnLeastSaid : Prop := fnExactBurnLeastRow.holds Try.pinned (OpenSpec.ofChange fnExactBurnLeastSpec)

/-- ITS FALSE NEIGHBOUR: 'it returns false'. Refute it at one input. -/
def fnExactBurnLeastWrong : ChangeSpec := { name := "fnExactBurnLeast", fn := fun _ => fun
  | [d1, d2] => { results := [.lit (.bool false)], args := [d1, d2] }
  | _ => none }
def FnExactBurnLeastWrongFalsely : Prop := fnExactBurnLeastRow.holds Try.pinned (OpenSpec.ofChange fnExactBurnLeastWrong)

/-- 'laws.FnExactStartsLate': WHATEVER THE INPUT: true; the input reads as it did. -/
def fnExactStartsLateSpec : ChangeSpec := { name := "fnExactStartsLate", fn := fun _ => fun
  | [d] => { results := [.lit (.bool true)], args := [d] }
  | _ => none }
def fnExactStartsLateRow : OpenClaim := { program := "yteloapholoechab", sum := "7e47d7e566e6c274b52ec4b5fcbde63f69e1a013c69cd53aaf19d79ada27ae12", func := "loop.example/restaurantkitchen/laws.FnExactStartsLate", spec := "fnExactStartsLate", unfollowed := true, recurses := true, apart := false }
def FnExactStartsLateSaid : Prop := fnExactStartsLateRow.holds Try.pinned (OpenSpec.ofChange fnExactStartsLateSpec)

/-- ITS FALSE NEIGHBOUR: 'it returns false'. Refute it at one input. -/
def fnExactStartsLateWrong : ChangeSpec := { name := "fnExactStartsLate", fn := fun _ => fun
  | [d] => { results := [.lit (.bool false)], args := [d] }
  | _ => none }
def FnExactStartsLateWrongFalsely : Prop := fnExactStartsLateRow.holds Try.pinned (OpenSpec.ofChange fnExactStartsLateWrong)

/-- 'laws.FnExactLongestWay': WHATEVER THE INPUT: true; the input reads as it did. -/
def fnExactLongestWaySpec : ChangeSpec := { name := "fnExactLongestWay", fn := fun _ => fun
  | [d] => { results := [.lit (.bool true)], args := [d] }
  | _ => none }
def fnExactLongestWayRow : OpenClaim := { program := "yteloapholoechab", sum := "7e47d7e566e6c274b52ec4b5fcbde63f69e1a013c69cd53aaf19d79ada27ae12", func := "loop.example/restaurantkitchen/laws.FnExactLongestWay", spec := "fnExactLongestWay", apart := false }
def FnExactLongestWaySaid : Prop := fnExactLongestWayRow.holds Try.pinned (OpenSpec.ofChange fnExactLongestWaySpec)

/-- ITS FALSE NEIGHBOUR: 'it returns false'. Refute it at one input. -/
def fnExactLongestWayWrong : ChangeSpec := { name := "fnExactLongestWay", fn := fun _ => fun
  | [d] => { results := [.lit (.bool false)], args := [d] }
  | _ => none }
def FnExactLongestWayWrongFalsely : Prop := fnExactLongestWayRow.holds Try.pinned (OpenSpec.ofChange fnExactLongestWayWrong)

/- THE SECOND FORM. 'bulk': how many values and letters a reading holds, each counted each time it is reached (what is shared counts as often as it is met; a slice's spare places count too). A statement '..UptoSaid' is the law's where the arguments, and the package variables that the reading takes, are together of bulk at most 1048576: NARROWER than '..Said'. Prove '..Said' where nothing that the law and all that it calls make is longer than what came in: it says more and counts as full. Else prove '..UptoSaid'. A law counts once. -/
mutual
def uptoBulk {H : Type} : DataW H → Nat
  | .lit (.string bytes) => bytes.length + 1
  | .lit _ => 1
  | .nil => 1
  | .ptr d => uptoBulk d + 1
  | .slice elems spare => uptoBulkAll elems + uptoBulkAll spare + 1
  | .agg parts => uptoBulkAll parts + 1
  | .iface _ d => uptoBulk d + 1
  | .map entries => uptoBulkEntries entries + 1
  | .held _ => 1
def uptoBulkAll {H : Type} : List (DataW H) → Nat
  | [] => 0
  | d :: r => uptoBulk d + uptoBulkAll r
def uptoBulkEntries {H : Type} : List (Lit × DataW H) → Nat
  | [] => 0
  | x :: r => uptoBulkEntry x + uptoBulkEntries r
def uptoBulkEntry {H : Type} : Lit × DataW H → Nat
  | (.string bytes, d) => bytes.length + uptoBulk d + 1
  | (_, d) => uptoBulk d + 1
 end
def uptoSmall : (H : Type) → List (DataW H) → Bool := fun _ ds => decide (uptoBulkAll ds ≤ 1048576)
def OpenSpec.upto (s : _root_.Go.ChangeSpec) : _root_.Go.OpenSpec := { _root_.Go.OpenSpec.ofChange s with cond := some uptoSmall }

/-- 'laws.FnExactFlowBest', WHERE WHAT IT READS IS OF BULK AT MOST 1048576: true; the input reads as it did. -/
def fnExactFlowBestUptoRow : OpenClaim := { program := "yteloapholoechab", sum := "7e47d7e566e6c274b52ec4b5fcbde63f69e1a013c69cd53aaf19d79ada27ae12", func := "loop.example/restaurantkitchen/laws.FnExactFlowBest", spec := "fnExactFlowBest", unfollowed := true, recurses := true, apart := false, narrowed := true }
def FnExactFlowBestUptoSaid : Prop := fnExactFlowBestUptoRow.holds Try.pinned (OpenSpec.upto fnExactFlowBestSpec)

/-- 'laws.FnExactFlowLeast', WHERE WHAT IT READS IS OF BULK AT MOST 1048576: true; the input reads as it did. -/
def fnExactFlowLeastUptoRow : OpenClaim := { program := "yteloapholoechab", sum := "7e47d7e566e6c274b52ec4b5fcbde63f69e1a013c69cd53aaf19d79ada27ae12", func := "loop.example/restaurantkitchen/laws.FnExactFlowLeast", spec := "fnExactFlowLeast", unfollowed := true, recurses := true, apart := false, narrowed := true }
def FnExactFlowLeastUptoSaid : Prop := fnExactFlowLeastUptoRow.holds Try.pinned (OpenSpec.upto fnExactFlowLeastSpec)

/-- 'laws.FnExactBurnLeast', WHERE WHAT IT READS IS OF BULK AT MOST 1048576: true; the input reads as it did. -/
def fnExactBurnLeastUptoRow : OpenClaim := { program := "yteloapholoechab", sum := "7e47d7e566e6c274b52ec4b5fcbde63f69e1a013c69cd53aaf19d79ada27ae12", func := "loop.example/restaurantkitchen/laws.FnExactBurnLeast", spec := "fnExactBurnLeast", recurses := true, apart := false, narrowed := true }
def FnExactBurnLeastUptoSaid : Prop := fnExactBurnLeastUptoRow.holds Try.pinned (OpenSpec.upto fnExactBurnLeastSpec)

/-- 'laws.FnExactStartsLate', WHERE WHAT IT READS IS OF BULK AT MOST 1048576: true; the input reads as it did. -/
def fnExactStartsLateUptoRow : OpenClaim := { program := "yteloapholoechab", sum := "7e47d7e566e6c274b52ec4b5fcbde63f69e1a013c69cd53aaf19d79ada27ae12", func := "loop.example/restaurantkitchen/laws.FnExactStartsLate", spec := "fnExactStartsLate", unfollowed := true, recurses := true, apart := false, narrowed := true }
def FnExactStartsLateUptoSaid : Prop := fnExactStartsLateUptoRow.holds Try.pinned (OpenSpec.upto fnExactStartsLateSpec)

/-- 'laws.FnExactLongestWay', WHERE WHAT IT READS IS OF BULK AT MOST 1048576: true; the input reads as it did. -/
def fnExactLongestWayUptoRow : OpenClaim := { program := "yteloapholoechab", sum := "7e47d7e566e6c274b52ec4b5fcbde63f69e1a013c69cd53aaf19d79ada27ae12", func := "loop.example/restaurantkitchen/laws.FnExactLongestWay", spec := "fnExactLongestWay", apart := false, narrowed := true }
def FnExactLongestWayUptoSaid : Prop := fnExactLongestWayUptoRow.holds Try.pinned (OpenSpec.upto fnExactLongestWaySpec)

end Rows
end Go.Proofs.Yteloapholoechab
