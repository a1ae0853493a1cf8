/-
  NARROWER THAN 'FOR EVERY INPUT', by the rows' own cells (each row's printed sentence says how): FnFlowEnd: laid · FnFlowBest: laid · FnFlowLeast: laid · FnBurnEnd: laid · FnBurnList: laid · FnBurnLeast: laid · FnStartsOk: laid · FnStartsEarly: laid · FnTasksEnd: laid · FnStartsLate: laid · FnLongestWay: laid.
  DERIVED. THE GIVEN ROWS OF THIS SEAT. 11 by the template 'for every input the law returns true; each argument reads behind the call as it read before'; 0 by the template 'total and deterministic' (their statements: YteloapholoechaaDoorTotals.lean).
  GIVEN WITH THE SEED: the statements are not yours to turn. If you find one false, say at which input.
  Laid BY PROGRAM, IN A SANDBOX (cutbox-rows.mjs): the forced cells as the released guide's own fill.sh prints them over the translation 54bbd1f239bdcf71… (all of the seat's roots in one cut). By AI agents, Wed Nov 11 2026. No macro, syntax, notation, axiom, sorry.
-/
import Derived.Test.YteloapholoechaaDoorChecked
import GoSem.Claim
import GoSem.ClaimJoined
import GoSem.ClaimMapViews
import Derived.JoinedTies
import Derived.KernelRfl
namespace Go.Proofs.YteloapholoechaaDoor
/- THE CELL 'sum', in the pinned program and in every row, IS THE sha256 OF THE DUMP (.gsa) THAT YteloapholoechaaDoorProg.lean LOADS. Nothing in Lean hashes anything: it is a label: what it is worth is what the hold of that sum in a sandbox is worth. -/
noncomputable def Tryd.pinned : Pinned := { name := "yteloapholoechaadoor", sum := "54bbd1f239bdcf718aa223ed855072479c8284d17a434b7bfca3455de3af8a38", checked := Tryd.checked }
namespace Rows
def none {H : Type} : Left H := { results := [], args := [] }

/- WHAT THE LISTED PACKAGE-LEVEL VARIABLES READ AS WHEN THE CALL BEGINS. Each datum BY PROGRAM (the guide's laid-datum.mjs) off the statement by which the dump's own 'gosem.cut.vars' lays the variable. In a bare row this is a premise. The card (YteloapholoechaaDoorCards.lean) ties it to the program's text. -/
def laid_math_bits_deBruijn32tab {H : Type} : DataW H := .agg [.lit (.int .u8 0), .lit (.int .u8 1), .lit (.int .u8 28), .lit (.int .u8 2), .lit (.int .u8 29), .lit (.int .u8 14), .lit (.int .u8 24), .lit (.int .u8 3), .lit (.int .u8 30), .lit (.int .u8 22), .lit (.int .u8 20), .lit (.int .u8 15), .lit (.int .u8 25), .lit (.int .u8 17), .lit (.int .u8 4), .lit (.int .u8 8), .lit (.int .u8 31), .lit (.int .u8 27), .lit (.int .u8 13), .lit (.int .u8 23), .lit (.int .u8 21), .lit (.int .u8 19), .lit (.int .u8 16), .lit (.int .u8 7), .lit (.int .u8 26), .lit (.int .u8 12), .lit (.int .u8 18), .lit (.int .u8 6), .lit (.int .u8 11), .lit (.int .u8 5), .lit (.int .u8 10), .lit (.int .u8 9)]
def laid_math_bits_deBruijn64tab {H : Type} : DataW H := .agg [.lit (.int .u8 0), .lit (.int .u8 1), .lit (.int .u8 56), .lit (.int .u8 2), .lit (.int .u8 57), .lit (.int .u8 49), .lit (.int .u8 28), .lit (.int .u8 3), .lit (.int .u8 61), .lit (.int .u8 58), .lit (.int .u8 42), .lit (.int .u8 50), .lit (.int .u8 38), .lit (.int .u8 29), .lit (.int .u8 17), .lit (.int .u8 4), .lit (.int .u8 62), .lit (.int .u8 47), .lit (.int .u8 59), .lit (.int .u8 36), .lit (.int .u8 45), .lit (.int .u8 43), .lit (.int .u8 51), .lit (.int .u8 22), .lit (.int .u8 53), .lit (.int .u8 39), .lit (.int .u8 33), .lit (.int .u8 30), .lit (.int .u8 24), .lit (.int .u8 18), .lit (.int .u8 12), .lit (.int .u8 5), .lit (.int .u8 63), .lit (.int .u8 55), .lit (.int .u8 48), .lit (.int .u8 27), .lit (.int .u8 60), .lit (.int .u8 41), .lit (.int .u8 37), .lit (.int .u8 16), .lit (.int .u8 46), .lit (.int .u8 35), .lit (.int .u8 44), .lit (.int .u8 21), .lit (.int .u8 52), .lit (.int .u8 32), .lit (.int .u8 23), .lit (.int .u8 11), .lit (.int .u8 54), .lit (.int .u8 26), .lit (.int .u8 40), .lit (.int .u8 15), .lit (.int .u8 34), .lit (.int .u8 20), .lit (.int .u8 31), .lit (.int .u8 10), .lit (.int .u8 25), .lit (.int .u8 14), .lit (.int .u8 19), .lit (.int .u8 9), .lit (.int .u8 13), .lit (.int .u8 8), .lit (.int .u8 7), .lit (.int .u8 6)]
def laid_internal_strconv_uint64pow10 {H : Type} : DataW H := .agg [.lit (.int .u64 1), .lit (.int .u64 10), .lit (.int .u64 100), .lit (.int .u64 1000), .lit (.int .u64 10000), .lit (.int .u64 100000), .lit (.int .u64 1000000), .lit (.int .u64 10000000), .lit (.int .u64 100000000), .lit (.int .u64 1000000000), .lit (.int .u64 10000000000), .lit (.int .u64 100000000000), .lit (.int .u64 1000000000000), .lit (.int .u64 10000000000000), .lit (.int .u64 100000000000000), .lit (.int .u64 1000000000000000), .lit (.int .u64 10000000000000000), .lit (.int .u64 100000000000000000), .lit (.int .u64 1000000000000000000), .lit (.int .u64 10000000000000000000)]

/-- 'laws.FnFlowEnd': WHATEVER THE INPUT: true; the input reads as it did. -/
def fnFlowEndSpec : ChangeSpec := { name := "fnFlowEnd", fn := fun _ => fun
  | [d] => { results := [.lit (.bool true)], args := [d] }
  | _ => none }
def fnFlowEndRow : OpenClaim := { program := "yteloapholoechaadoor", sum := "54bbd1f239bdcf718aa223ed855072479c8284d17a434b7bfca3455de3af8a38", func := "loop.example/restaurantkitchen/laws.FnFlowEnd", spec := "fnFlowEnd", inPlace := ["internal/abi.NoEscape", "internal/bytealg.MakeNoZero"], unfollowed := true, recurses := true, named := ["internal/strconv.uint64pow10", "math/bits.deBruijn32tab", "math/bits.deBruijn64tab"], apart := false, laid := [("math/bits.deBruijn32tab", laid_math_bits_deBruijn32tab), ("math/bits.deBruijn64tab", laid_math_bits_deBruijn64tab), ("internal/strconv.uint64pow10", laid_internal_strconv_uint64pow10)] }
def FnFlowEndSaid : Prop := fnFlowEndRow.holds Tryd.pinned (OpenSpec.ofChange fnFlowEndSpec)

/-- ITS FALSE NEIGHBOUR: 'it returns false'. Refute it at one input. -/
def fnFlowEndWrong : ChangeSpec := { name := "fnFlowEnd", fn := fun _ => fun
  | [d] => { results := [.lit (.bool false)], args := [d] }
  | _ => none }
def FnFlowEndWrongFalsely : Prop := fnFlowEndRow.holds Tryd.pinned (OpenSpec.ofChange fnFlowEndWrong)

/-- 'laws.FnFlowBest': WHATEVER THE INPUT: true; the input reads as it did. -/
def fnFlowBestSpec : ChangeSpec := { name := "fnFlowBest", fn := fun _ => fun
  | [d] => { results := [.lit (.bool true)], args := [d] }
  | _ => none }
def fnFlowBestRow : OpenClaim := { program := "yteloapholoechaadoor", sum := "54bbd1f239bdcf718aa223ed855072479c8284d17a434b7bfca3455de3af8a38", func := "loop.example/restaurantkitchen/laws.FnFlowBest", spec := "fnFlowBest", inPlace := ["internal/abi.NoEscape", "internal/bytealg.MakeNoZero"], unfollowed := true, recurses := true, named := ["internal/strconv.uint64pow10", "math/bits.deBruijn32tab", "math/bits.deBruijn64tab"], apart := false, laid := [("math/bits.deBruijn32tab", laid_math_bits_deBruijn32tab), ("math/bits.deBruijn64tab", laid_math_bits_deBruijn64tab), ("internal/strconv.uint64pow10", laid_internal_strconv_uint64pow10)] }
def FnFlowBestSaid : Prop := fnFlowBestRow.holds Tryd.pinned (OpenSpec.ofChange fnFlowBestSpec)

/-- ITS FALSE NEIGHBOUR: 'it returns false'. Refute it at one input. -/
def fnFlowBestWrong : ChangeSpec := { name := "fnFlowBest", fn := fun _ => fun
  | [d] => { results := [.lit (.bool false)], args := [d] }
  | _ => none }
def FnFlowBestWrongFalsely : Prop := fnFlowBestRow.holds Tryd.pinned (OpenSpec.ofChange fnFlowBestWrong)

/-- 'laws.FnFlowLeast': WHATEVER THE INPUT: true; the input reads as it did. -/
def fnFlowLeastSpec : ChangeSpec := { name := "fnFlowLeast", fn := fun _ => fun
  | [d] => { results := [.lit (.bool true)], args := [d] }
  | _ => none }
def fnFlowLeastRow : OpenClaim := { program := "yteloapholoechaadoor", sum := "54bbd1f239bdcf718aa223ed855072479c8284d17a434b7bfca3455de3af8a38", func := "loop.example/restaurantkitchen/laws.FnFlowLeast", spec := "fnFlowLeast", inPlace := ["internal/abi.NoEscape", "internal/bytealg.MakeNoZero"], unfollowed := true, recurses := true, named := ["internal/strconv.uint64pow10", "math/bits.deBruijn32tab", "math/bits.deBruijn64tab"], apart := false, laid := [("math/bits.deBruijn32tab", laid_math_bits_deBruijn32tab), ("math/bits.deBruijn64tab", laid_math_bits_deBruijn64tab), ("internal/strconv.uint64pow10", laid_internal_strconv_uint64pow10)] }
def FnFlowLeastSaid : Prop := fnFlowLeastRow.holds Tryd.pinned (OpenSpec.ofChange fnFlowLeastSpec)

/-- ITS FALSE NEIGHBOUR: 'it returns false'. Refute it at one input. -/
def fnFlowLeastWrong : ChangeSpec := { name := "fnFlowLeast", fn := fun _ => fun
  | [d] => { results := [.lit (.bool false)], args := [d] }
  | _ => none }
def FnFlowLeastWrongFalsely : Prop := fnFlowLeastRow.holds Tryd.pinned (OpenSpec.ofChange fnFlowLeastWrong)

/-- 'laws.FnBurnEnd': WHATEVER THE INPUT: true; the input reads as it did. -/
def fnBurnEndSpec : ChangeSpec := { name := "fnBurnEnd", fn := fun _ => fun
  | [d] => { results := [.lit (.bool true)], args := [d] }
  | _ => none }
def fnBurnEndRow : OpenClaim := { program := "yteloapholoechaadoor", sum := "54bbd1f239bdcf718aa223ed855072479c8284d17a434b7bfca3455de3af8a38", func := "loop.example/restaurantkitchen/laws.FnBurnEnd", spec := "fnBurnEnd", inPlace := ["internal/abi.NoEscape", "internal/bytealg.MakeNoZero"], recurses := true, named := ["internal/strconv.uint64pow10", "math/bits.deBruijn32tab", "math/bits.deBruijn64tab"], apart := false, laid := [("math/bits.deBruijn32tab", laid_math_bits_deBruijn32tab), ("math/bits.deBruijn64tab", laid_math_bits_deBruijn64tab), ("internal/strconv.uint64pow10", laid_internal_strconv_uint64pow10)] }
def FnBurnEndSaid : Prop := fnBurnEndRow.holds Tryd.pinned (OpenSpec.ofChange fnBurnEndSpec)

/-- ITS FALSE NEIGHBOUR: 'it returns false'. Refute it at one input. -/
def fnBurnEndWrong : ChangeSpec := { name := "fnBurnEnd", fn := fun _ => fun
  | [d] => { results := [.lit (.bool false)], args := [d] }
  | _ => none }
def FnBurnEndWrongFalsely : Prop := fnBurnEndRow.holds Tryd.pinned (OpenSpec.ofChange fnBurnEndWrong)

/-- 'laws.FnBurnList': WHATEVER THE INPUT: true; the input reads as it did. -/
def fnBurnListSpec : ChangeSpec := { name := "fnBurnList", fn := fun _ => fun
  | [d] => { results := [.lit (.bool true)], args := [d] }
  | _ => none }
def fnBurnListRow : OpenClaim := { program := "yteloapholoechaadoor", sum := "54bbd1f239bdcf718aa223ed855072479c8284d17a434b7bfca3455de3af8a38", func := "loop.example/restaurantkitchen/laws.FnBurnList", spec := "fnBurnList", inPlace := ["internal/abi.NoEscape", "internal/bytealg.MakeNoZero"], recurses := true, named := ["internal/strconv.uint64pow10", "math/bits.deBruijn32tab", "math/bits.deBruijn64tab"], apart := false, laid := [("math/bits.deBruijn32tab", laid_math_bits_deBruijn32tab), ("math/bits.deBruijn64tab", laid_math_bits_deBruijn64tab), ("internal/strconv.uint64pow10", laid_internal_strconv_uint64pow10)] }
def FnBurnListSaid : Prop := fnBurnListRow.holds Tryd.pinned (OpenSpec.ofChange fnBurnListSpec)

/-- ITS FALSE NEIGHBOUR: 'it returns false'. Refute it at one input. -/
def fnBurnListWrong : ChangeSpec := { name := "fnBurnList", fn := fun _ => fun
  | [d] => { results := [.lit (.bool false)], args := [d] }
  | _ => none }
def FnBurnListWrongFalsely : Prop := fnBurnListRow.holds Tryd.pinned (OpenSpec.ofChange fnBurnListWrong)

/-- 'laws.FnBurnLeast': WHATEVER THE INPUT: true; the input reads as it did. -/
def fnBurnLeastSpec : ChangeSpec := { name := "fnBurnLeast", fn := fun _ => fun
  | [d] => { results := [.lit (.bool true)], args := [d] }
  | _ => none }
def fnBurnLeastRow : OpenClaim := { program := "yteloapholoechaadoor", sum := "54bbd1f239bdcf718aa223ed855072479c8284d17a434b7bfca3455de3af8a38", func := "loop.example/restaurantkitchen/laws.FnBurnLeast", spec := "fnBurnLeast", inPlace := ["internal/abi.NoEscape", "internal/bytealg.MakeNoZero"], recurses := true, named := ["internal/strconv.uint64pow10", "math/bits.deBruijn32tab", "math/bits.deBruijn64tab"], apart := false, laid := [("math/bits.deBruijn32tab", laid_math_bits_deBruijn32tab), ("math/bits.deBruijn64tab", laid_math_bits_deBruijn64tab), ("internal/strconv.uint64pow10", laid_internal_strconv_uint64pow10)] }
def FnBurnLeastSaid : Prop := fnBurnLeastRow.holds Tryd.pinned (OpenSpec.ofChange fnBurnLeastSpec)

/-- ITS FALSE NEIGHBOUR: 'it returns false'. Refute it at one input. -/
def fnBurnLeastWrong : ChangeSpec := { name := "fnBurnLeast", fn := fun _ => fun
  | [d] => { results := [.lit (.bool false)], args := [d] }
  | _ => none }
def FnBurnLeastWrongFalsely : Prop := fnBurnLeastRow.holds Tryd.pinned (OpenSpec.ofChange fnBurnLeastWrong)

/-- 'laws.FnStartsOk': WHATEVER THE INPUT: true; the input reads as it did. -/
def fnStartsOkSpec : ChangeSpec := { name := "fnStartsOk", fn := fun _ => fun
  | [d] => { results := [.lit (.bool true)], args := [d] }
  | _ => none }
def fnStartsOkRow : OpenClaim := { program := "yteloapholoechaadoor", sum := "54bbd1f239bdcf718aa223ed855072479c8284d17a434b7bfca3455de3af8a38", func := "loop.example/restaurantkitchen/laws.FnStartsOk", spec := "fnStartsOk", inPlace := ["internal/abi.NoEscape", "internal/bytealg.MakeNoZero"], unfollowed := true, recurses := true, named := ["internal/strconv.uint64pow10", "math/bits.deBruijn32tab", "math/bits.deBruijn64tab"], apart := false, laid := [("math/bits.deBruijn32tab", laid_math_bits_deBruijn32tab), ("math/bits.deBruijn64tab", laid_math_bits_deBruijn64tab), ("internal/strconv.uint64pow10", laid_internal_strconv_uint64pow10)] }
def FnStartsOkSaid : Prop := fnStartsOkRow.holds Tryd.pinned (OpenSpec.ofChange fnStartsOkSpec)

/-- ITS FALSE NEIGHBOUR: 'it returns false'. Refute it at one input. -/
def fnStartsOkWrong : ChangeSpec := { name := "fnStartsOk", fn := fun _ => fun
  | [d] => { results := [.lit (.bool false)], args := [d] }
  | _ => none }
def FnStartsOkWrongFalsely : Prop := fnStartsOkRow.holds Tryd.pinned (OpenSpec.ofChange fnStartsOkWrong)

/-- 'laws.FnStartsEarly': WHATEVER THE INPUT: true; the input reads as it did. -/
def fnStartsEarlySpec : ChangeSpec := { name := "fnStartsEarly", fn := fun _ => fun
  | [d] => { results := [.lit (.bool true)], args := [d] }
  | _ => none }
def fnStartsEarlyRow : OpenClaim := { program := "yteloapholoechaadoor", sum := "54bbd1f239bdcf718aa223ed855072479c8284d17a434b7bfca3455de3af8a38", func := "loop.example/restaurantkitchen/laws.FnStartsEarly", spec := "fnStartsEarly", inPlace := ["internal/abi.NoEscape", "internal/bytealg.MakeNoZero"], named := ["internal/strconv.uint64pow10", "math/bits.deBruijn32tab", "math/bits.deBruijn64tab"], apart := false, laid := [("math/bits.deBruijn32tab", laid_math_bits_deBruijn32tab), ("math/bits.deBruijn64tab", laid_math_bits_deBruijn64tab), ("internal/strconv.uint64pow10", laid_internal_strconv_uint64pow10)] }
def FnStartsEarlySaid : Prop := fnStartsEarlyRow.holds Tryd.pinned (OpenSpec.ofChange fnStartsEarlySpec)

/-- ITS FALSE NEIGHBOUR: 'it returns false'. Refute it at one input. -/
def fnStartsEarlyWrong : ChangeSpec := { name := "fnStartsEarly", fn := fun _ => fun
  | [d] => { results := [.lit (.bool false)], args := [d] }
  | _ => none }
def FnStartsEarlyWrongFalsely : Prop := fnStartsEarlyRow.holds Tryd.pinned (OpenSpec.ofChange fnStartsEarlyWrong)

/-- 'laws.FnTasksEnd': WHATEVER THE INPUT: true; the input reads as it did. -/
def fnTasksEndSpec : ChangeSpec := { name := "fnTasksEnd", fn := fun _ => fun
  | [d] => { results := [.lit (.bool true)], args := [d] }
  | _ => none }
def fnTasksEndRow : OpenClaim := { program := "yteloapholoechaadoor", sum := "54bbd1f239bdcf718aa223ed855072479c8284d17a434b7bfca3455de3af8a38", func := "loop.example/restaurantkitchen/laws.FnTasksEnd", spec := "fnTasksEnd", inPlace := ["internal/abi.NoEscape", "internal/bytealg.MakeNoZero"], named := ["internal/strconv.uint64pow10", "math/bits.deBruijn32tab", "math/bits.deBruijn64tab"], apart := false, laid := [("math/bits.deBruijn32tab", laid_math_bits_deBruijn32tab), ("math/bits.deBruijn64tab", laid_math_bits_deBruijn64tab), ("internal/strconv.uint64pow10", laid_internal_strconv_uint64pow10)] }
def FnTasksEndSaid : Prop := fnTasksEndRow.holds Tryd.pinned (OpenSpec.ofChange fnTasksEndSpec)

/-- ITS FALSE NEIGHBOUR: 'it returns false'. Refute it at one input. -/
def fnTasksEndWrong : ChangeSpec := { name := "fnTasksEnd", fn := fun _ => fun
  | [d] => { results := [.lit (.bool false)], args := [d] }
  | _ => none }
def FnTasksEndWrongFalsely : Prop := fnTasksEndRow.holds Tryd.pinned (OpenSpec.ofChange fnTasksEndWrong)

/-- 'laws.FnStartsLate': WHATEVER THE INPUT: true; the input reads as it did. -/
def fnStartsLateSpec : ChangeSpec := { name := "fnStartsLate", fn := fun _ => fun
  | [d] => { results := [.lit (.bool true)], args := [d] }
  | _ => none }
def fnStartsLateRow : OpenClaim := { program := "yteloapholoechaadoor", sum := "54bbd1f239bdcf718aa223ed855072479c8284d17a434b7bfca3455de3af8a38", func := "loop.example/restaurantkitchen/laws.FnStartsLate", spec := "fnStartsLate", inPlace := ["internal/abi.NoEscape", "internal/bytealg.MakeNoZero"], unfollowed := true, recurses := true, named := ["internal/strconv.uint64pow10", "math/bits.deBruijn32tab", "math/bits.deBruijn64tab"], apart := false, laid := [("math/bits.deBruijn32tab", laid_math_bits_deBruijn32tab), ("math/bits.deBruijn64tab", laid_math_bits_deBruijn64tab), ("internal/strconv.uint64pow10", laid_internal_strconv_uint64pow10)] }
def FnStartsLateSaid : Prop := fnStartsLateRow.holds Tryd.pinned (OpenSpec.ofChange fnStartsLateSpec)

/-- ITS FALSE NEIGHBOUR: 'it returns false'. Refute it at one input. -/
def fnStartsLateWrong : ChangeSpec := { name := "fnStartsLate", fn := fun _ => fun
  | [d] => { results := [.lit (.bool false)], args := [d] }
  | _ => none }
def FnStartsLateWrongFalsely : Prop := fnStartsLateRow.holds Tryd.pinned (OpenSpec.ofChange fnStartsLateWrong)

/-- 'laws.FnLongestWay': WHATEVER THE INPUT: true; the input reads as it did. -/
def fnLongestWaySpec : ChangeSpec := { name := "fnLongestWay", fn := fun _ => fun
  | [d] => { results := [.lit (.bool true)], args := [d] }
  | _ => none }
def fnLongestWayRow : OpenClaim := { program := "yteloapholoechaadoor", sum := "54bbd1f239bdcf718aa223ed855072479c8284d17a434b7bfca3455de3af8a38", func := "loop.example/restaurantkitchen/laws.FnLongestWay", spec := "fnLongestWay", inPlace := ["internal/abi.NoEscape", "internal/bytealg.MakeNoZero"], unfollowed := true, recurses := true, named := ["internal/strconv.uint64pow10", "math/bits.deBruijn32tab", "math/bits.deBruijn64tab"], apart := false, laid := [("math/bits.deBruijn32tab", laid_math_bits_deBruijn32tab), ("math/bits.deBruijn64tab", laid_math_bits_deBruijn64tab), ("internal/strconv.uint64pow10", laid_internal_strconv_uint64pow10)] }
def FnLongestWaySaid : Prop := fnLongestWayRow.holds Tryd.pinned (OpenSpec.ofChange fnLongestWaySpec)

/-- ITS FALSE NEIGHBOUR: 'it returns false'. Refute it at one input. -/
def fnLongestWayWrong : ChangeSpec := { name := "fnLongestWay", fn := fun _ => fun
  | [d] => { results := [.lit (.bool false)], args := [d] }
  | _ => none }
def FnLongestWayWrongFalsely : Prop := fnLongestWayRow.holds Tryd.pinned (OpenSpec.ofChange fnLongestWayWrong)

/- THE SECOND FORM. 'bulk': how many values and letters a reading holds, each counted each time it is reached (what is shared counts as often as it is met; a slice's spare places count too). A statement '..UptoSaid' is the law's where the arguments, and the package variables that the reading takes, are together of bulk at most 1048576: NARROWER than '..Said'. Prove '..Said' where nothing that the law and all that it calls make is longer than what came in: it says more and counts as full. Else prove '..UptoSaid'. A law counts once. -/
mutual
def uptoBulk {H : Type} : DataW H → Nat
  | .lit (.string bytes) => bytes.length + 1
  | .lit _ => 1
  | .nil => 1
  | .ptr d => uptoBulk d + 1
  | .slice elems spare => uptoBulkAll elems + uptoBulkAll spare + 1
  | .agg parts => uptoBulkAll parts + 1
  | .iface _ d => uptoBulk d + 1
  | .map entries => uptoBulkEntries entries + 1
  | .held _ => 1
def uptoBulkAll {H : Type} : List (DataW H) → Nat
  | [] => 0
  | d :: r => uptoBulk d + uptoBulkAll r
def uptoBulkEntries {H : Type} : List (Lit × DataW H) → Nat
  | [] => 0
  | x :: r => uptoBulkEntry x + uptoBulkEntries r
def uptoBulkEntry {H : Type} : Lit × DataW H → Nat
  | (.string bytes, d) => bytes.length + uptoBulk d + 1
  | (_, d) => uptoBulk d + 1
 end
def uptoSmall : (H : Type) → List (DataW H) → Bool := fun _ ds => decide (uptoBulkAll ds ≤ 1048576)
def OpenSpec.upto (s : _root_.Go.ChangeSpec) : _root_.Go.OpenSpec := { _root_.Go.OpenSpec.ofChange s with cond := some uptoSmall }

/-- 'laws.FnFlowEnd', WHERE WHAT IT READS IS OF BULK AT MOST 1048576: true; the input reads as it did. -/
def fnFlowEndUptoRow : OpenClaim := { program := "yteloapholoechaadoor", sum := "54bbd1f239bdcf718aa223ed855072479c8284d17a434b7bfca3455de3af8a38", func := "loop.example/restaurantkitchen/laws.FnFlowEnd", spec := "fnFlowEnd", inPlace := ["internal/abi.NoEscape", "internal/bytealg.MakeNoZero"], unfollowed := true, recurses := true, named := ["internal/strconv.uint64pow10", "math/bits.deBruijn32tab", "math/bits.deBruijn64tab"], apart := false, laid := [("math/bits.deBruijn32tab", laid_math_bits_deBruijn32tab), ("math/bits.deBruijn64tab", laid_math_bits_deBruijn64tab), ("internal/strconv.uint64pow10", laid_internal_strconv_uint64pow10)], narrowed := true }
def FnFlowEndUptoSaid : Prop := fnFlowEndUptoRow.holds Tryd.pinned (OpenSpec.upto fnFlowEndSpec)

/-- 'laws.FnFlowBest', WHERE WHAT IT READS IS OF BULK AT MOST 1048576: true; the input reads as it did. -/
def fnFlowBestUptoRow : OpenClaim := { program := "yteloapholoechaadoor", sum := "54bbd1f239bdcf718aa223ed855072479c8284d17a434b7bfca3455de3af8a38", func := "loop.example/restaurantkitchen/laws.FnFlowBest", spec := "fnFlowBest", inPlace := ["internal/abi.NoEscape", "internal/bytealg.MakeNoZero"], unfollowed := true, recurses := true, named := ["internal/strconv.uint64pow10", "math/bits.deBruijn32tab", "math/bits.deBruijn64tab"], apart := false, laid := [("math/bits.deBruijn32tab", laid_math_bits_deBruijn32tab), ("math/bits.deBruijn64tab", laid_math_bits_deBruijn64tab), ("internal/strconv.uint64pow10", laid_internal_strconv_uint64pow10)], narrowed := true }
def FnFlowBestUptoSaid : Prop := fnFlowBestUptoRow.holds Tryd.pinned (OpenSpec.upto fnFlowBestSpec)

/-- 'laws.FnFlowLeast', WHERE WHAT IT READS IS OF BULK AT MOST 1048576: true; the input reads as it did. -/
def fnFlowLeastUptoRow : OpenClaim := { program := "yteloapholoechaadoor", sum := "54bbd1f239bdcf718aa223ed855072479c8284d17a434b7bfca3455de3af8a38", func := "loop.example/restaurantkitchen/laws.FnFlowLeast", spec := "fnFlowLeast", inPlace := ["internal/abi.NoEscape", "internal/bytealg.MakeNoZero"], unfollowed := true, recurses := true, named := ["internal/strconv.uint64pow10", "math/bits.deBruijn32tab", "math/bits.deBruijn64tab"], apart := false, laid := [("math/bits.deBruijn32tab", laid_math_bits_deBruijn32tab), ("math/bits.deBruijn64tab", laid_math_bits_deBruijn64tab), ("internal/strconv.uint64pow10", laid_internal_strconv_uint64pow10)], narrowed := true }
def FnFlowLeastUptoSaid : Prop := fnFlowLeastUptoRow.holds Tryd.pinned (OpenSpec.upto fnFlowLeastSpec)

/-- 'laws.FnBurnEnd', WHERE WHAT IT READS IS OF BULK AT MOST 1048576: true; the input reads as it did. -/
def fnBurnEndUptoRow : OpenClaim := { program := "yteloapholoechaadoor", sum := "54bbd1f239bdcf718aa223ed855072479c8284d17a434b7bfca3455de3af8a38", func := "loop.example/restaurantkitchen/laws.FnBurnEnd", spec := "fnBurnEnd", inPlace := ["internal/abi.NoEscape", "internal/bytealg.MakeNoZero"], recurses := true, named := ["internal/strconv.uint64pow10", "math/bits.deBruijn32tab", "math/bits.deBruijn64tab"], apart := false, laid := [("math/bits.deBruijn32tab", laid_math_bits_deBruijn32tab), ("math/bits.deBruijn64tab", laid_math_bits_deBruijn64tab), ("internal/strconv.uint64pow10", laid_internal_strconv_uint64pow10)], narrowed := true }
def FnBurnEndUptoSaid : Prop := fnBurnEndUptoRow.holds Tryd.pinned (OpenSpec.upto fnBurnEndSpec)

/-- 'laws.FnBurnList', WHERE WHAT IT READS IS OF BULK AT MOST 1048576: true; the input reads as it did. -/
def fnBurnListUptoRow : OpenClaim := { program := "yteloapholoechaadoor", sum := "54bbd1f239bdcf718aa223ed855072479c8284d17a434b7bfca3455de3af8a38", func := "loop.example/restaurantkitchen/laws.FnBurnList", spec := "fnBurnList", inPlace := ["internal/abi.NoEscape", "internal/bytealg.MakeNoZero"], recurses := true, named := ["internal/strconv.uint64pow10", "math/bits.deBruijn32tab", "math/bits.deBruijn64tab"], apart := false, laid := [("math/bits.deBruijn32tab", laid_math_bits_deBruijn32tab), ("math/bits.deBruijn64tab", laid_math_bits_deBruijn64tab), ("internal/strconv.uint64pow10", laid_internal_strconv_uint64pow10)], narrowed := true }
def FnBurnListUptoSaid : Prop := fnBurnListUptoRow.holds Tryd.pinned (OpenSpec.upto fnBurnListSpec)

/-- 'laws.FnBurnLeast', WHERE WHAT IT READS IS OF BULK AT MOST 1048576: true; the input reads as it did. -/
def fnBurnLeastUptoRow : OpenClaim := { program := "yteloapholoechaadoor", sum := "54bbd1f239bdcf718aa223ed855072479c8284d17a434b7bfca3455de3af8a38", func := "loop.example/restaurantkitchen/laws.FnBurnLeast", spec := "fnBurnLeast", inPlace := ["internal/abi.NoEscape", "internal/bytealg.MakeNoZero"], recurses := true, named := ["internal/strconv.uint64pow10", "math/bits.deBruijn32tab", "math/bits.deBruijn64tab"], apart := false, laid := [("math/bits.deBruijn32tab", laid_math_bits_deBruijn32tab), ("math/bits.deBruijn64tab", laid_math_bits_deBruijn64tab), ("internal/strconv.uint64pow10", laid_internal_strconv_uint64pow10)], narrowed := true }
def FnBurnLeastUptoSaid : Prop := fnBurnLeastUptoRow.holds Tryd.pinned (OpenSpec.upto fnBurnLeastSpec)

/-- 'laws.FnStartsOk', WHERE WHAT IT READS IS OF BULK AT MOST 1048576: true; the input reads as it did. -/
def fnStartsOkUptoRow : OpenClaim := { program := "yteloapholoechaadoor", sum := "54bbd1f239bdcf718aa223ed855072479c8284d17a434b7bfca3455de3af8a38", func := "loop.example/restaurantkitchen/laws.FnStartsOk", spec := "fnStartsOk", inPlace := ["internal/abi.NoEscape", "internal/bytealg.MakeNoZero"], unfollowed := true, recurses := true, named := ["internal/strconv.uint64pow10", "math/bits.deBruijn32tab", "math/bits.deBruijn64tab"], apart := false, laid := [("math/bits.deBruijn32tab", laid_math_bits_deBruijn32tab), ("math/bits.deBruijn64tab", laid_math_bits_deBruijn64tab), ("internal/strconv.uint64pow10", laid_internal_strconv_uint64pow10)], narrowed := true }
def FnStartsOkUptoSaid : Prop := fnStartsOkUptoRow.holds Tryd.pinned (OpenSpec.upto fnStartsOkSpec)

/-- 'laws.FnStartsEarly', WHERE WHAT IT READS IS OF BULK AT MOST 1048576: true; the input reads as it did. -/
def fnStartsEarlyUptoRow : OpenClaim := { program := "yteloapholoechaadoor", sum := "54bbd1f239bdcf718aa223ed855072479c8284d17a434b7bfca3455de3af8a38", func := "loop.example/restaurantkitchen/laws.FnStartsEarly", spec := "fnStartsEarly", inPlace := ["internal/abi.NoEscape", "internal/bytealg.MakeNoZero"], named := ["internal/strconv.uint64pow10", "math/bits.deBruijn32tab", "math/bits.deBruijn64tab"], apart := false, laid := [("math/bits.deBruijn32tab", laid_math_bits_deBruijn32tab), ("math/bits.deBruijn64tab", laid_math_bits_deBruijn64tab), ("internal/strconv.uint64pow10", laid_internal_strconv_uint64pow10)], narrowed := true }
def FnStartsEarlyUptoSaid : Prop := fnStartsEarlyUptoRow.holds Tryd.pinned (OpenSpec.upto fnStartsEarlySpec)

/-- 'laws.FnTasksEnd', WHERE WHAT IT READS IS OF BULK AT MOST 1048576: true; the input reads as it did. -/
def fnTasksEndUptoRow : OpenClaim := { program := "yteloapholoechaadoor", sum := "54bbd1f239bdcf718aa223ed855072479c8284d17a434b7bfca3455de3af8a38", func := "loop.example/restaurantkitchen/laws.FnTasksEnd", spec := "fnTasksEnd", inPlace := ["internal/abi.NoEscape", "internal/bytealg.MakeNoZero"], named := ["internal/strconv.uint64pow10", "math/bits.deBruijn32tab", "math/bits.deBruijn64tab"], apart := false, laid := [("math/bits.deBruijn32tab", laid_math_bits_deBruijn32tab), ("math/bits.deBruijn64tab", laid_math_bits_deBruijn64tab), ("internal/strconv.uint64pow10", laid_internal_strconv_uint64pow10)], narrowed := true }
def FnTasksEndUptoSaid : Prop := fnTasksEndUptoRow.holds Tryd.pinned (OpenSpec.upto fnTasksEndSpec)

/-- 'laws.FnStartsLate', WHERE WHAT IT READS IS OF BULK AT MOST 1048576: true; the input reads as it did. -/
def fnStartsLateUptoRow : OpenClaim := { program := "yteloapholoechaadoor", sum := "54bbd1f239bdcf718aa223ed855072479c8284d17a434b7bfca3455de3af8a38", func := "loop.example/restaurantkitchen/laws.FnStartsLate", spec := "fnStartsLate", inPlace := ["internal/abi.NoEscape", "internal/bytealg.MakeNoZero"], unfollowed := true, recurses := true, named := ["internal/strconv.uint64pow10", "math/bits.deBruijn32tab", "math/bits.deBruijn64tab"], apart := false, laid := [("math/bits.deBruijn32tab", laid_math_bits_deBruijn32tab), ("math/bits.deBruijn64tab", laid_math_bits_deBruijn64tab), ("internal/strconv.uint64pow10", laid_internal_strconv_uint64pow10)], narrowed := true }
def FnStartsLateUptoSaid : Prop := fnStartsLateUptoRow.holds Tryd.pinned (OpenSpec.upto fnStartsLateSpec)

/-- 'laws.FnLongestWay', WHERE WHAT IT READS IS OF BULK AT MOST 1048576: true; the input reads as it did. -/
def fnLongestWayUptoRow : OpenClaim := { program := "yteloapholoechaadoor", sum := "54bbd1f239bdcf718aa223ed855072479c8284d17a434b7bfca3455de3af8a38", func := "loop.example/restaurantkitchen/laws.FnLongestWay", spec := "fnLongestWay", inPlace := ["internal/abi.NoEscape", "internal/bytealg.MakeNoZero"], unfollowed := true, recurses := true, named := ["internal/strconv.uint64pow10", "math/bits.deBruijn32tab", "math/bits.deBruijn64tab"], apart := false, laid := [("math/bits.deBruijn32tab", laid_math_bits_deBruijn32tab), ("math/bits.deBruijn64tab", laid_math_bits_deBruijn64tab), ("internal/strconv.uint64pow10", laid_internal_strconv_uint64pow10)], narrowed := true }
def FnLongestWayUptoSaid : Prop := fnLongestWayUptoRow.holds Tryd.pinned (OpenSpec.upto fnLongestWaySpec)

end Rows
end Go.Proofs.YteloapholoechaaDoor
