/-
  No cell of these rows narrows 'for every input' (looked for: loops, veiled, ifaces, maps, wideKeys, modest, calm, conditions, laid).
  DERIVED. THE GIVEN ROWS OF THIS SEAT. 8 by the template 'for every input the law returns true; each argument reads behind the call as it read before'; 0 by the template 'total and deterministic' (their statements: YtcdcndliooehnabTotals.lean).
  GIVEN WITH THE SEED: the statements are not yours to turn. If you find one false, say at which input.
  Laid BY PROGRAM, IN A SANDBOX (cutbox-rows.mjs): the forced cells as the released guide's own fill.sh prints them over the translation 85f61fa8a3d8d18e… (all of the seat's roots in one cut). By AI agents, Wed Nov 11 2026. No macro, syntax, notation, axiom, sorry.
-/
import Derived.Test.YtcdcndliooehnabChecked
import GoSem.Claim
import GoSem.ClaimJoined
import GoSem.ClaimMapViews
import Derived.JoinedTies
import Derived.KernelRfl
namespace Go.Proofs.Ytcdcndliooehnab
/- THE CELL 'sum', in the pinned program and in every row, IS THE sha256 OF THE DUMP (.gsa) THAT YtcdcndliooehnabProg.lean LOADS. Nothing in Lean hashes anything: it is a label: what it is worth is what the hold of that sum in a sandbox is worth. -/
noncomputable def Try.pinned : Pinned := { name := "ytcdcndliooehnab", sum := "85f61fa8a3d8d18e20d74a3ffdf7b3efe3b7e913fef2859f17d63dbbb06aad25", checked := Try.checked }
namespace Rows
def none {H : Type} : Left H := { results := [], args := [] }

/-- 'laws.FnExactTogetherBest': WHATEVER THE INPUT: true; the input reads as it did. -/
def fnExactTogetherBestSpec : ChangeSpec := { name := "fnExactTogetherBest", fn := fun _ => fun
  | [d] => { results := [.lit (.bool true)], args := [d] }
  | _ => none }
def fnExactTogetherBestRow : OpenClaim := { program := "ytcdcndliooehnab", sum := "85f61fa8a3d8d18e20d74a3ffdf7b3efe3b7e913fef2859f17d63dbbb06aad25", func := "loop.example/restaurantkitchen/laws.FnExactTogetherBest", spec := "fnExactTogetherBest", unfollowed := true, recurses := true, apart := false }
def FnExactTogetherBestSaid : Prop := fnExactTogetherBestRow.holds Try.pinned (OpenSpec.ofChange fnExactTogetherBestSpec)

/-- ITS FALSE NEIGHBOUR: 'it returns false'. Refute it at one input. -/
def fnExactTogetherBestWrong : ChangeSpec := { name := "fnExactTogetherBest", fn := fun _ => fun
  | [d] => { results := [.lit (.bool false)], args := [d] }
  | _ => none }
def FnExactTogetherBestWrongFalsely : Prop := fnExactTogetherBestRow.holds Try.pinned (OpenSpec.ofChange fnExactTogetherBestWrong)

/-- 'laws.FnExactTasksValid': WHATEVER THE INPUT: true; the input reads as it did. -/
def fnExactTasksValidSpec : ChangeSpec := { name := "fnExactTasksValid", fn := fun _ => fun
  | [d] => { results := [.lit (.bool true)], args := [d] }
  | _ => none }
def fnExactTasksValidRow : OpenClaim := { program := "ytcdcndliooehnab", sum := "85f61fa8a3d8d18e20d74a3ffdf7b3efe3b7e913fef2859f17d63dbbb06aad25", func := "loop.example/restaurantkitchen/laws.FnExactTasksValid", spec := "fnExactTasksValid", apart := false }
def FnExactTasksValidSaid : Prop := fnExactTasksValidRow.holds Try.pinned (OpenSpec.ofChange fnExactTasksValidSpec)

/-- ITS FALSE NEIGHBOUR: 'it returns false'. Refute it at one input. -/
def fnExactTasksValidWrong : ChangeSpec := { name := "fnExactTasksValid", fn := fun _ => fun
  | [d] => { results := [.lit (.bool false)], args := [d] }
  | _ => none }
def FnExactTasksValidWrongFalsely : Prop := fnExactTasksValidRow.holds Try.pinned (OpenSpec.ofChange fnExactTasksValidWrong)

/-- 'laws.FnExactStartsOk': WHATEVER THE INPUT: true; the input reads as it did. -/
def fnExactStartsOkSpec : ChangeSpec := { name := "fnExactStartsOk", fn := fun _ => fun
  | [d1, d2] => { results := [.lit (.bool true)], args := [d1, d2] }
  | _ => none }
def fnExactStartsOkRow : OpenClaim := { program := "ytcdcndliooehnab", sum := "85f61fa8a3d8d18e20d74a3ffdf7b3efe3b7e913fef2859f17d63dbbb06aad25", func := "loop.example/restaurantkitchen/laws.FnExactStartsOk", spec := "fnExactStartsOk", apart := false }
def FnExactStartsOkSaid : Prop := fnExactStartsOkRow.holds Try.pinned (OpenSpec.ofChange fnExactStartsOkSpec)

/-- ITS FALSE NEIGHBOUR: 'it returns false'. Refute it at one input. -/
def fnExactStartsOkWrong : ChangeSpec := { name := "fnExactStartsOk", fn := fun _ => fun
  | [d1, d2] => { results := [.lit (.bool false)], args := [d1, d2] }
  | _ => none }
def FnExactStartsOkWrongFalsely : Prop := fnExactStartsOkRow.holds Try.pinned (OpenSpec.ofChange fnExactStartsOkWrong)

/-- 'laws.FnExactStartsEarly': WHATEVER THE INPUT: true; the input reads as it did. -/
def fnExactStartsEarlySpec : ChangeSpec := { name := "fnExactStartsEarly", fn := fun _ => fun
  | [d] => { results := [.lit (.bool true)], args := [d] }
  | _ => none }
def fnExactStartsEarlyRow : OpenClaim := { program := "ytcdcndliooehnab", sum := "85f61fa8a3d8d18e20d74a3ffdf7b3efe3b7e913fef2859f17d63dbbb06aad25", func := "loop.example/restaurantkitchen/laws.FnExactStartsEarly", spec := "fnExactStartsEarly", apart := false }
def FnExactStartsEarlySaid : Prop := fnExactStartsEarlyRow.holds Try.pinned (OpenSpec.ofChange fnExactStartsEarlySpec)

/-- ITS FALSE NEIGHBOUR: 'it returns false'. Refute it at one input. -/
def fnExactStartsEarlyWrong : ChangeSpec := { name := "fnExactStartsEarly", fn := fun _ => fun
  | [d] => { results := [.lit (.bool false)], args := [d] }
  | _ => none }
def FnExactStartsEarlyWrongFalsely : Prop := fnExactStartsEarlyRow.holds Try.pinned (OpenSpec.ofChange fnExactStartsEarlyWrong)

/-- 'laws.FnExactTasksEnd': WHATEVER THE INPUT: true; the input reads as it did. -/
def fnExactTasksEndSpec : ChangeSpec := { name := "fnExactTasksEnd", fn := fun _ => fun
  | [d] => { results := [.lit (.bool true)], args := [d] }
  | _ => none }
def fnExactTasksEndRow : OpenClaim := { program := "ytcdcndliooehnab", sum := "85f61fa8a3d8d18e20d74a3ffdf7b3efe3b7e913fef2859f17d63dbbb06aad25", func := "loop.example/restaurantkitchen/laws.FnExactTasksEnd", spec := "fnExactTasksEnd", apart := false }
def FnExactTasksEndSaid : Prop := fnExactTasksEndRow.holds Try.pinned (OpenSpec.ofChange fnExactTasksEndSpec)

/-- ITS FALSE NEIGHBOUR: 'it returns false'. Refute it at one input. -/
def fnExactTasksEndWrong : ChangeSpec := { name := "fnExactTasksEnd", fn := fun _ => fun
  | [d] => { results := [.lit (.bool false)], args := [d] }
  | _ => none }
def FnExactTasksEndWrongFalsely : Prop := fnExactTasksEndRow.holds Try.pinned (OpenSpec.ofChange fnExactTasksEndWrong)

/-- 'laws.FnExactStartsLate': WHATEVER THE INPUT: true; the input reads as it did. -/
def fnExactStartsLateSpec : ChangeSpec := { name := "fnExactStartsLate", fn := fun _ => fun
  | [d] => { results := [.lit (.bool true)], args := [d] }
  | _ => none }
def fnExactStartsLateRow : OpenClaim := { program := "ytcdcndliooehnab", sum := "85f61fa8a3d8d18e20d74a3ffdf7b3efe3b7e913fef2859f17d63dbbb06aad25", func := "loop.example/restaurantkitchen/laws.FnExactStartsLate", spec := "fnExactStartsLate", unfollowed := true, recurses := true, apart := false }
def FnExactStartsLateSaid : Prop := fnExactStartsLateRow.holds Try.pinned (OpenSpec.ofChange fnExactStartsLateSpec)

/-- ITS FALSE NEIGHBOUR: 'it returns false'. Refute it at one input. -/
def fnExactStartsLateWrong : ChangeSpec := { name := "fnExactStartsLate", fn := fun _ => fun
  | [d] => { results := [.lit (.bool false)], args := [d] }
  | _ => none }
def FnExactStartsLateWrongFalsely : Prop := fnExactStartsLateRow.holds Try.pinned (OpenSpec.ofChange fnExactStartsLateWrong)

/-- 'laws.FnExactLongestWay': WHATEVER THE INPUT: true; the input reads as it did. -/
def fnExactLongestWaySpec : ChangeSpec := { name := "fnExactLongestWay", fn := fun _ => fun
  | [d] => { results := [.lit (.bool true)], args := [d] }
  | _ => none }
def fnExactLongestWayRow : OpenClaim := { program := "ytcdcndliooehnab", sum := "85f61fa8a3d8d18e20d74a3ffdf7b3efe3b7e913fef2859f17d63dbbb06aad25", func := "loop.example/restaurantkitchen/laws.FnExactLongestWay", spec := "fnExactLongestWay", apart := false }
def FnExactLongestWaySaid : Prop := fnExactLongestWayRow.holds Try.pinned (OpenSpec.ofChange fnExactLongestWaySpec)

/-- ITS FALSE NEIGHBOUR: 'it returns false'. Refute it at one input. -/
def fnExactLongestWayWrong : ChangeSpec := { name := "fnExactLongestWay", fn := fun _ => fun
  | [d] => { results := [.lit (.bool false)], args := [d] }
  | _ => none }
def FnExactLongestWayWrongFalsely : Prop := fnExactLongestWayRow.holds Try.pinned (OpenSpec.ofChange fnExactLongestWayWrong)

/-- 'laws.FnExactTicketNew': WHATEVER THE INPUT: true; the input reads as it did. -/
def fnExactTicketNewSpec : ChangeSpec := { name := "fnExactTicketNew", fn := fun _ => fun
  | [d] => { results := [.lit (.bool true)], args := [d] }
  | _ => none }
def fnExactTicketNewRow : OpenClaim := { program := "ytcdcndliooehnab", sum := "85f61fa8a3d8d18e20d74a3ffdf7b3efe3b7e913fef2859f17d63dbbb06aad25", func := "loop.example/restaurantkitchen/laws.FnExactTicketNew", spec := "fnExactTicketNew", apart := false }
def FnExactTicketNewSaid : Prop := fnExactTicketNewRow.holds Try.pinned (OpenSpec.ofChange fnExactTicketNewSpec)

/-- ITS FALSE NEIGHBOUR: 'it returns false'. Refute it at one input. -/
def fnExactTicketNewWrong : ChangeSpec := { name := "fnExactTicketNew", fn := fun _ => fun
  | [d] => { results := [.lit (.bool false)], args := [d] }
  | _ => none }
def FnExactTicketNewWrongFalsely : Prop := fnExactTicketNewRow.holds Try.pinned (OpenSpec.ofChange fnExactTicketNewWrong)

/- THE SECOND FORM. 'bulk': how many values and letters a reading holds, each counted each time it is reached (what is shared counts as often as it is met; a slice's spare places count too). A statement '..UptoSaid' is the law's where the arguments, and the package variables that the reading takes, are together of bulk at most 1048576: NARROWER than '..Said'. Prove '..Said' where nothing that the law and all that it calls make is longer than what came in: it says more and counts as full. Else prove '..UptoSaid'. A law counts once. -/
mutual
def uptoBulk {H : Type} : DataW H → Nat
  | .lit (.string bytes) => bytes.length + 1
  | .lit _ => 1
  | .nil => 1
  | .ptr d => uptoBulk d + 1
  | .slice elems spare => uptoBulkAll elems + uptoBulkAll spare + 1
  | .agg parts => uptoBulkAll parts + 1
  | .iface _ d => uptoBulk d + 1
  | .map entries => uptoBulkEntries entries + 1
  | .held _ => 1
def uptoBulkAll {H : Type} : List (DataW H) → Nat
  | [] => 0
  | d :: r => uptoBulk d + uptoBulkAll r
def uptoBulkEntries {H : Type} : List (Lit × DataW H) → Nat
  | [] => 0
  | x :: r => uptoBulkEntry x + uptoBulkEntries r
def uptoBulkEntry {H : Type} : Lit × DataW H → Nat
  | (.string bytes, d) => bytes.length + uptoBulk d + 1
  | (_, d) => uptoBulk d + 1
 end
def uptoSmall : (H : Type) → List (DataW H) → Bool := fun _ ds => decide (uptoBulkAll ds ≤ 1048576)
def OpenSpec.upto (s : _root_.Go.ChangeSpec) : _root_.Go.OpenSpec := { _root_.Go.OpenSpec.ofChange s with cond := some uptoSmall }

/-- 'laws.FnExactTogetherBest', WHERE WHAT IT READS IS OF BULK AT MOST 1048576: true; the input reads as it did. -/
def fnExactTogetherBestUptoRow : OpenClaim := { program := "ytcdcndliooehnab", sum := "85f61fa8a3d8d18e20d74a3ffdf7b3efe3b7e913fef2859f17d63dbbb06aad25", func := "loop.example/restaurantkitchen/laws.FnExactTogetherBest", spec := "fnExactTogetherBest", unfollowed := true, recurses := true, apart := false, narrowed := true }
def FnExactTogetherBestUptoSaid : Prop := fnExactTogetherBestUptoRow.holds Try.pinned (OpenSpec.upto fnExactTogetherBestSpec)

/-- 'laws.FnExactTasksValid', WHERE WHAT IT READS IS OF BULK AT MOST 1048576: true; the input reads as it did. -/
def fnExactTasksValidUptoRow : OpenClaim := { program := "ytcdcndliooehnab", sum := "85f61fa8a3d8d18e20d74a3ffdf7b3efe3b7e913fef2859f17d63dbbb06aad25", func := "loop.example/restaurantkitchen/laws.FnExactTasksValid", spec := "fnExactTasksValid", apart := false, narrowed := true }
def FnExactTasksValidUptoSaid : Prop := fnExactTasksValidUptoRow.holds Try.pinned (OpenSpec.upto fnExactTasksValidSpec)

/-- 'laws.FnExactStartsOk', WHERE WHAT IT READS IS OF BULK AT MOST 1048576: true; the input reads as it did. -/
def fnExactStartsOkUptoRow : OpenClaim := { program := "ytcdcndliooehnab", sum := "85f61fa8a3d8d18e20d74a3ffdf7b3efe3b7e913fef2859f17d63dbbb06aad25", func := "loop.example/restaurantkitchen/laws.FnExactStartsOk", spec := "fnExactStartsOk", apart := false, narrowed := true }
def FnExactStartsOkUptoSaid : Prop := fnExactStartsOkUptoRow.holds Try.pinned (OpenSpec.upto fnExactStartsOkSpec)

/-- 'laws.FnExactStartsEarly', WHERE WHAT IT READS IS OF BULK AT MOST 1048576: true; the input reads as it did. -/
def fnExactStartsEarlyUptoRow : OpenClaim := { program := "ytcdcndliooehnab", sum := "85f61fa8a3d8d18e20d74a3ffdf7b3efe3b7e913fef2859f17d63dbbb06aad25", func := "loop.example/restaurantkitchen/laws.FnExactStartsEarly", spec := "fnExactStartsEarly", apart := false, narrowed := true }
def FnExactStartsEarlyUptoSaid : Prop := fnExactStartsEarlyUptoRow.holds Try.pinned (OpenSpec.upto fnExactStartsEarlySpec)

/-- 'laws.FnExactTasksEnd', WHERE WHAT IT READS IS OF BULK AT MOST 1048576: true; the input reads as it did. -/
def fnExactTasksEndUptoRow : OpenClaim := { program := "ytcdcndliooehnab", sum := "85f61fa8a3d8d18e20d74a3ffdf7b3efe3b7e913fef2859f17d63dbbb06aad25", func := "loop.example/restaurantkitchen/laws.FnExactTasksEnd", spec := "fnExactTasksEnd", apart := false, narrowed := true }
def FnExactTasksEndUptoSaid : Prop := fnExactTasksEndUptoRow.holds Try.pinned (OpenSpec.upto fnExactTasksEndSpec)

/-- 'laws.FnExactStartsLate', WHERE WHAT IT READS IS OF BULK AT MOST 1048576: true; the input reads as it did. -/
def fnExactStartsLateUptoRow : OpenClaim := { program := "ytcdcndliooehnab", sum := "85f61fa8a3d8d18e20d74a3ffdf7b3efe3b7e913fef2859f17d63dbbb06aad25", func := "loop.example/restaurantkitchen/laws.FnExactStartsLate", spec := "fnExactStartsLate", unfollowed := true, recurses := true, apart := false, narrowed := true }
def FnExactStartsLateUptoSaid : Prop := fnExactStartsLateUptoRow.holds Try.pinned (OpenSpec.upto fnExactStartsLateSpec)

/-- 'laws.FnExactLongestWay', WHERE WHAT IT READS IS OF BULK AT MOST 1048576: true; the input reads as it did. -/
def fnExactLongestWayUptoRow : OpenClaim := { program := "ytcdcndliooehnab", sum := "85f61fa8a3d8d18e20d74a3ffdf7b3efe3b7e913fef2859f17d63dbbb06aad25", func := "loop.example/restaurantkitchen/laws.FnExactLongestWay", spec := "fnExactLongestWay", apart := false, narrowed := true }
def FnExactLongestWayUptoSaid : Prop := fnExactLongestWayUptoRow.holds Try.pinned (OpenSpec.upto fnExactLongestWaySpec)

/-- 'laws.FnExactTicketNew', WHERE WHAT IT READS IS OF BULK AT MOST 1048576: true; the input reads as it did. -/
def fnExactTicketNewUptoRow : OpenClaim := { program := "ytcdcndliooehnab", sum := "85f61fa8a3d8d18e20d74a3ffdf7b3efe3b7e913fef2859f17d63dbbb06aad25", func := "loop.example/restaurantkitchen/laws.FnExactTicketNew", spec := "fnExactTicketNew", apart := false, narrowed := true }
def FnExactTicketNewUptoSaid : Prop := fnExactTicketNewUptoRow.holds Try.pinned (OpenSpec.upto fnExactTicketNewSpec)

end Rows
end Go.Proofs.Ytcdcndliooehnab
