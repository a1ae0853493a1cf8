/-
  NARROWER THAN 'FOR EVERY INPUT', by the rows' own cells (each row's printed sentence says how): FnDishesValid: laid · FnOrderOk: laid · FnSpansValid: laid · FnBurnOk: laid · FnTogetherWaits: laid · FnTogetherBest: laid · FnSharesValid: laid · FnShareOf: laid · FnTipOf: laid · FnOwedValid: laid · FnOwedOf: laid · FnSettleFast: laid · FnTicketValid: laid.
  DERIVED. THE GIVEN ROWS OF THIS SEAT. 13 by the template 'for every input the law returns true; each argument reads behind the call as it read before'; 0 by the template 'total and deterministic' (their statements: YteocmjffjinphaaDoorTotals.lean).
  GIVEN WITH THE SEED: the statements are not yours to turn. If you find one false, say at which input.
  Laid BY PROGRAM, IN A SANDBOX (cutbox-rows.mjs): the forced cells as the released guide's own fill.sh prints them over the translation 0041f8b7d1783dad… (all of the seat's roots in one cut). By AI agents, Wed Nov 11 2026. No macro, syntax, notation, axiom, sorry.
-/
import Derived.Test.YteocmjffjinphaaDoorChecked
import GoSem.Claim
import GoSem.ClaimJoined
import GoSem.ClaimMapViews
import Derived.JoinedTies
import Derived.KernelRfl
namespace Go.Proofs.YteocmjffjinphaaDoor
/- THE CELL 'sum', in the pinned program and in every row, IS THE sha256 OF THE DUMP (.gsa) THAT YteocmjffjinphaaDoorProg.lean LOADS. Nothing in Lean hashes anything: it is a label: what it is worth is what the hold of that sum in a sandbox is worth. -/
noncomputable def Tryd.pinned : Pinned := { name := "yteocmjffjinphaadoor", sum := "0041f8b7d1783dad368b261228da15a164198aafa147b5f8fadd4130c38ba03b", checked := Tryd.checked }
namespace Rows
def none {H : Type} : Left H := { results := [], args := [] }

/- WHAT THE LISTED PACKAGE-LEVEL VARIABLES READ AS WHEN THE CALL BEGINS. Each datum BY PROGRAM (the guide's laid-datum.mjs) off the statement by which the dump's own 'gosem.cut.vars' lays the variable. In a bare row this is a premise. The card (YteocmjffjinphaaDoorCards.lean) ties it to the program's text. -/
def laid_math_bits_deBruijn32tab {H : Type} : DataW H := .agg [.lit (.int .u8 0), .lit (.int .u8 1), .lit (.int .u8 28), .lit (.int .u8 2), .lit (.int .u8 29), .lit (.int .u8 14), .lit (.int .u8 24), .lit (.int .u8 3), .lit (.int .u8 30), .lit (.int .u8 22), .lit (.int .u8 20), .lit (.int .u8 15), .lit (.int .u8 25), .lit (.int .u8 17), .lit (.int .u8 4), .lit (.int .u8 8), .lit (.int .u8 31), .lit (.int .u8 27), .lit (.int .u8 13), .lit (.int .u8 23), .lit (.int .u8 21), .lit (.int .u8 19), .lit (.int .u8 16), .lit (.int .u8 7), .lit (.int .u8 26), .lit (.int .u8 12), .lit (.int .u8 18), .lit (.int .u8 6), .lit (.int .u8 11), .lit (.int .u8 5), .lit (.int .u8 10), .lit (.int .u8 9)]
def laid_math_bits_deBruijn64tab {H : Type} : DataW H := .agg [.lit (.int .u8 0), .lit (.int .u8 1), .lit (.int .u8 56), .lit (.int .u8 2), .lit (.int .u8 57), .lit (.int .u8 49), .lit (.int .u8 28), .lit (.int .u8 3), .lit (.int .u8 61), .lit (.int .u8 58), .lit (.int .u8 42), .lit (.int .u8 50), .lit (.int .u8 38), .lit (.int .u8 29), .lit (.int .u8 17), .lit (.int .u8 4), .lit (.int .u8 62), .lit (.int .u8 47), .lit (.int .u8 59), .lit (.int .u8 36), .lit (.int .u8 45), .lit (.int .u8 43), .lit (.int .u8 51), .lit (.int .u8 22), .lit (.int .u8 53), .lit (.int .u8 39), .lit (.int .u8 33), .lit (.int .u8 30), .lit (.int .u8 24), .lit (.int .u8 18), .lit (.int .u8 12), .lit (.int .u8 5), .lit (.int .u8 63), .lit (.int .u8 55), .lit (.int .u8 48), .lit (.int .u8 27), .lit (.int .u8 60), .lit (.int .u8 41), .lit (.int .u8 37), .lit (.int .u8 16), .lit (.int .u8 46), .lit (.int .u8 35), .lit (.int .u8 44), .lit (.int .u8 21), .lit (.int .u8 52), .lit (.int .u8 32), .lit (.int .u8 23), .lit (.int .u8 11), .lit (.int .u8 54), .lit (.int .u8 26), .lit (.int .u8 40), .lit (.int .u8 15), .lit (.int .u8 34), .lit (.int .u8 20), .lit (.int .u8 31), .lit (.int .u8 10), .lit (.int .u8 25), .lit (.int .u8 14), .lit (.int .u8 19), .lit (.int .u8 9), .lit (.int .u8 13), .lit (.int .u8 8), .lit (.int .u8 7), .lit (.int .u8 6)]
def laid_internal_strconv_uint64pow10 {H : Type} : DataW H := .agg [.lit (.int .u64 1), .lit (.int .u64 10), .lit (.int .u64 100), .lit (.int .u64 1000), .lit (.int .u64 10000), .lit (.int .u64 100000), .lit (.int .u64 1000000), .lit (.int .u64 10000000), .lit (.int .u64 100000000), .lit (.int .u64 1000000000), .lit (.int .u64 10000000000), .lit (.int .u64 100000000000), .lit (.int .u64 1000000000000), .lit (.int .u64 10000000000000), .lit (.int .u64 100000000000000), .lit (.int .u64 1000000000000000), .lit (.int .u64 10000000000000000), .lit (.int .u64 100000000000000000), .lit (.int .u64 1000000000000000000), .lit (.int .u64 10000000000000000000)]
def laid_loop_example_restaurantkitchen_impl_piecesLeft {H : Type} : DataW H := .agg [.lit (.int .i64 3), .lit (.int .i64 2), .lit (.int .i64 1), .lit (.int .i64 0), .lit (.int .i64 0)]

/-- 'laws.FnDishesValid': WHATEVER THE INPUT: true; the input reads as it did. -/
def fnDishesValidSpec : ChangeSpec := { name := "fnDishesValid", fn := fun _ => fun
  | [d] => { results := [.lit (.bool true)], args := [d] }
  | _ => none }
def fnDishesValidRow : OpenClaim := { program := "yteocmjffjinphaadoor", sum := "0041f8b7d1783dad368b261228da15a164198aafa147b5f8fadd4130c38ba03b", func := "loop.example/restaurantkitchen/laws.FnDishesValid", spec := "fnDishesValid", inPlace := ["internal/abi.NoEscape", "internal/bytealg.MakeNoZero"], named := ["internal/strconv.uint64pow10", "math/bits.deBruijn32tab", "math/bits.deBruijn64tab"], apart := false, laid := [("math/bits.deBruijn32tab", laid_math_bits_deBruijn32tab), ("math/bits.deBruijn64tab", laid_math_bits_deBruijn64tab), ("internal/strconv.uint64pow10", laid_internal_strconv_uint64pow10)] }
def FnDishesValidSaid : Prop := fnDishesValidRow.holds Tryd.pinned (OpenSpec.ofChange fnDishesValidSpec)

/-- ITS FALSE NEIGHBOUR: 'it returns false'. Refute it at one input. -/
def fnDishesValidWrong : ChangeSpec := { name := "fnDishesValid", fn := fun _ => fun
  | [d] => { results := [.lit (.bool false)], args := [d] }
  | _ => none }
def FnDishesValidWrongFalsely : Prop := fnDishesValidRow.holds Tryd.pinned (OpenSpec.ofChange fnDishesValidWrong)

/-- 'laws.FnOrderOk': WHATEVER THE INPUT: true; the input reads as it did. -/
def fnOrderOkSpec : ChangeSpec := { name := "fnOrderOk", fn := fun _ => fun
  | [d] => { results := [.lit (.bool true)], args := [d] }
  | _ => none }
def fnOrderOkRow : OpenClaim := { program := "yteocmjffjinphaadoor", sum := "0041f8b7d1783dad368b261228da15a164198aafa147b5f8fadd4130c38ba03b", func := "loop.example/restaurantkitchen/laws.FnOrderOk", spec := "fnOrderOk", inPlace := ["internal/abi.NoEscape", "internal/bytealg.MakeNoZero"], named := ["internal/strconv.uint64pow10", "math/bits.deBruijn32tab", "math/bits.deBruijn64tab"], apart := false, laid := [("math/bits.deBruijn32tab", laid_math_bits_deBruijn32tab), ("math/bits.deBruijn64tab", laid_math_bits_deBruijn64tab), ("internal/strconv.uint64pow10", laid_internal_strconv_uint64pow10)] }
def FnOrderOkSaid : Prop := fnOrderOkRow.holds Tryd.pinned (OpenSpec.ofChange fnOrderOkSpec)

/-- ITS FALSE NEIGHBOUR: 'it returns false'. Refute it at one input. -/
def fnOrderOkWrong : ChangeSpec := { name := "fnOrderOk", fn := fun _ => fun
  | [d] => { results := [.lit (.bool false)], args := [d] }
  | _ => none }
def FnOrderOkWrongFalsely : Prop := fnOrderOkRow.holds Tryd.pinned (OpenSpec.ofChange fnOrderOkWrong)

/-- 'laws.FnSpansValid': WHATEVER THE INPUT: true; the input reads as it did. -/
def fnSpansValidSpec : ChangeSpec := { name := "fnSpansValid", fn := fun _ => fun
  | [d] => { results := [.lit (.bool true)], args := [d] }
  | _ => none }
def fnSpansValidRow : OpenClaim := { program := "yteocmjffjinphaadoor", sum := "0041f8b7d1783dad368b261228da15a164198aafa147b5f8fadd4130c38ba03b", func := "loop.example/restaurantkitchen/laws.FnSpansValid", spec := "fnSpansValid", inPlace := ["internal/abi.NoEscape", "internal/bytealg.MakeNoZero"], named := ["internal/strconv.uint64pow10", "math/bits.deBruijn32tab", "math/bits.deBruijn64tab"], apart := false, laid := [("math/bits.deBruijn32tab", laid_math_bits_deBruijn32tab), ("math/bits.deBruijn64tab", laid_math_bits_deBruijn64tab), ("internal/strconv.uint64pow10", laid_internal_strconv_uint64pow10)] }
def FnSpansValidSaid : Prop := fnSpansValidRow.holds Tryd.pinned (OpenSpec.ofChange fnSpansValidSpec)

/-- ITS FALSE NEIGHBOUR: 'it returns false'. Refute it at one input. -/
def fnSpansValidWrong : ChangeSpec := { name := "fnSpansValid", fn := fun _ => fun
  | [d] => { results := [.lit (.bool false)], args := [d] }
  | _ => none }
def FnSpansValidWrongFalsely : Prop := fnSpansValidRow.holds Tryd.pinned (OpenSpec.ofChange fnSpansValidWrong)

/-- 'laws.FnBurnOk': WHATEVER THE INPUT: true; the input reads as it did. -/
def fnBurnOkSpec : ChangeSpec := { name := "fnBurnOk", fn := fun _ => fun
  | [d] => { results := [.lit (.bool true)], args := [d] }
  | _ => none }
def fnBurnOkRow : OpenClaim := { program := "yteocmjffjinphaadoor", sum := "0041f8b7d1783dad368b261228da15a164198aafa147b5f8fadd4130c38ba03b", func := "loop.example/restaurantkitchen/laws.FnBurnOk", spec := "fnBurnOk", inPlace := ["internal/abi.NoEscape", "internal/bytealg.MakeNoZero"], named := ["internal/strconv.uint64pow10", "math/bits.deBruijn32tab", "math/bits.deBruijn64tab"], apart := false, laid := [("math/bits.deBruijn32tab", laid_math_bits_deBruijn32tab), ("math/bits.deBruijn64tab", laid_math_bits_deBruijn64tab), ("internal/strconv.uint64pow10", laid_internal_strconv_uint64pow10)] }
def FnBurnOkSaid : Prop := fnBurnOkRow.holds Tryd.pinned (OpenSpec.ofChange fnBurnOkSpec)

/-- ITS FALSE NEIGHBOUR: 'it returns false'. Refute it at one input. -/
def fnBurnOkWrong : ChangeSpec := { name := "fnBurnOk", fn := fun _ => fun
  | [d] => { results := [.lit (.bool false)], args := [d] }
  | _ => none }
def FnBurnOkWrongFalsely : Prop := fnBurnOkRow.holds Tryd.pinned (OpenSpec.ofChange fnBurnOkWrong)

/-- 'laws.FnTogetherWaits': WHATEVER THE INPUT: true; the input reads as it did. -/
def fnTogetherWaitsSpec : ChangeSpec := { name := "fnTogetherWaits", fn := fun _ => fun
  | [d] => { results := [.lit (.bool true)], args := [d] }
  | _ => none }
def fnTogetherWaitsRow : OpenClaim := { program := "yteocmjffjinphaadoor", sum := "0041f8b7d1783dad368b261228da15a164198aafa147b5f8fadd4130c38ba03b", func := "loop.example/restaurantkitchen/laws.FnTogetherWaits", spec := "fnTogetherWaits", inPlace := ["internal/abi.NoEscape", "internal/bytealg.MakeNoZero"], unfollowed := true, recurses := true, named := ["internal/strconv.uint64pow10", "math/bits.deBruijn32tab", "math/bits.deBruijn64tab"], apart := false, laid := [("math/bits.deBruijn32tab", laid_math_bits_deBruijn32tab), ("math/bits.deBruijn64tab", laid_math_bits_deBruijn64tab), ("internal/strconv.uint64pow10", laid_internal_strconv_uint64pow10)] }
def FnTogetherWaitsSaid : Prop := fnTogetherWaitsRow.holds Tryd.pinned (OpenSpec.ofChange fnTogetherWaitsSpec)

/-- ITS FALSE NEIGHBOUR: 'it returns false'. Refute it at one input. -/
def fnTogetherWaitsWrong : ChangeSpec := { name := "fnTogetherWaits", fn := fun _ => fun
  | [d] => { results := [.lit (.bool false)], args := [d] }
  | _ => none }
def FnTogetherWaitsWrongFalsely : Prop := fnTogetherWaitsRow.holds Tryd.pinned (OpenSpec.ofChange fnTogetherWaitsWrong)

/-- 'laws.FnTogetherBest': WHATEVER THE INPUT: true; the input reads as it did. -/
def fnTogetherBestSpec : ChangeSpec := { name := "fnTogetherBest", fn := fun _ => fun
  | [d] => { results := [.lit (.bool true)], args := [d] }
  | _ => none }
def fnTogetherBestRow : OpenClaim := { program := "yteocmjffjinphaadoor", sum := "0041f8b7d1783dad368b261228da15a164198aafa147b5f8fadd4130c38ba03b", func := "loop.example/restaurantkitchen/laws.FnTogetherBest", spec := "fnTogetherBest", inPlace := ["internal/abi.NoEscape", "internal/bytealg.MakeNoZero"], unfollowed := true, recurses := true, named := ["internal/strconv.uint64pow10", "math/bits.deBruijn32tab", "math/bits.deBruijn64tab"], apart := false, laid := [("math/bits.deBruijn32tab", laid_math_bits_deBruijn32tab), ("math/bits.deBruijn64tab", laid_math_bits_deBruijn64tab), ("internal/strconv.uint64pow10", laid_internal_strconv_uint64pow10)] }
def FnTogetherBestSaid : Prop := fnTogetherBestRow.holds Tryd.pinned (OpenSpec.ofChange fnTogetherBestSpec)

/-- ITS FALSE NEIGHBOUR: 'it returns false'. Refute it at one input. -/
def fnTogetherBestWrong : ChangeSpec := { name := "fnTogetherBest", fn := fun _ => fun
  | [d] => { results := [.lit (.bool false)], args := [d] }
  | _ => none }
def FnTogetherBestWrongFalsely : Prop := fnTogetherBestRow.holds Tryd.pinned (OpenSpec.ofChange fnTogetherBestWrong)

/-- 'laws.FnSharesValid': WHATEVER THE INPUT: true; the input reads as it did. -/
def fnSharesValidSpec : ChangeSpec := { name := "fnSharesValid", fn := fun _ => fun
  | [d] => { results := [.lit (.bool true)], args := [d] }
  | _ => none }
def fnSharesValidRow : OpenClaim := { program := "yteocmjffjinphaadoor", sum := "0041f8b7d1783dad368b261228da15a164198aafa147b5f8fadd4130c38ba03b", func := "loop.example/restaurantkitchen/laws.FnSharesValid", spec := "fnSharesValid", inPlace := ["internal/abi.NoEscape", "internal/bytealg.MakeNoZero"], named := ["internal/strconv.uint64pow10", "math/bits.deBruijn32tab", "math/bits.deBruijn64tab"], apart := false, laid := [("math/bits.deBruijn32tab", laid_math_bits_deBruijn32tab), ("math/bits.deBruijn64tab", laid_math_bits_deBruijn64tab), ("internal/strconv.uint64pow10", laid_internal_strconv_uint64pow10)] }
def FnSharesValidSaid : Prop := fnSharesValidRow.holds Tryd.pinned (OpenSpec.ofChange fnSharesValidSpec)

/-- ITS FALSE NEIGHBOUR: 'it returns false'. Refute it at one input. -/
def fnSharesValidWrong : ChangeSpec := { name := "fnSharesValid", fn := fun _ => fun
  | [d] => { results := [.lit (.bool false)], args := [d] }
  | _ => none }
def FnSharesValidWrongFalsely : Prop := fnSharesValidRow.holds Tryd.pinned (OpenSpec.ofChange fnSharesValidWrong)

/-- 'laws.FnShareOf': WHATEVER THE INPUT: true; the input reads as it did. -/
def fnShareOfSpec : ChangeSpec := { name := "fnShareOf", fn := fun _ => fun
  | [d] => { results := [.lit (.bool true)], args := [d] }
  | _ => none }
def fnShareOfRow : OpenClaim := { program := "yteocmjffjinphaadoor", sum := "0041f8b7d1783dad368b261228da15a164198aafa147b5f8fadd4130c38ba03b", func := "loop.example/restaurantkitchen/laws.FnShareOf", spec := "fnShareOf", inPlace := ["internal/abi.NoEscape", "internal/bytealg.MakeNoZero"], unfollowed := true, recurses := true, named := ["internal/strconv.uint64pow10", "math/bits.deBruijn32tab", "math/bits.deBruijn64tab"], apart := false, laid := [("math/bits.deBruijn32tab", laid_math_bits_deBruijn32tab), ("math/bits.deBruijn64tab", laid_math_bits_deBruijn64tab), ("internal/strconv.uint64pow10", laid_internal_strconv_uint64pow10)] }
def FnShareOfSaid : Prop := fnShareOfRow.holds Tryd.pinned (OpenSpec.ofChange fnShareOfSpec)

/-- ITS FALSE NEIGHBOUR: 'it returns false'. Refute it at one input. -/
def fnShareOfWrong : ChangeSpec := { name := "fnShareOf", fn := fun _ => fun
  | [d] => { results := [.lit (.bool false)], args := [d] }
  | _ => none }
def FnShareOfWrongFalsely : Prop := fnShareOfRow.holds Tryd.pinned (OpenSpec.ofChange fnShareOfWrong)

/-- 'laws.FnTipOf': WHATEVER THE INPUT: true; the input reads as it did. -/
def fnTipOfSpec : ChangeSpec := { name := "fnTipOf", fn := fun _ => fun
  | [d] => { results := [.lit (.bool true)], args := [d] }
  | _ => none }
def fnTipOfRow : OpenClaim := { program := "yteocmjffjinphaadoor", sum := "0041f8b7d1783dad368b261228da15a164198aafa147b5f8fadd4130c38ba03b", func := "loop.example/restaurantkitchen/laws.FnTipOf", spec := "fnTipOf", inPlace := ["internal/abi.NoEscape", "internal/bytealg.MakeNoZero"], named := ["internal/strconv.uint64pow10", "math/bits.deBruijn32tab", "math/bits.deBruijn64tab"], apart := false, laid := [("math/bits.deBruijn32tab", laid_math_bits_deBruijn32tab), ("math/bits.deBruijn64tab", laid_math_bits_deBruijn64tab), ("internal/strconv.uint64pow10", laid_internal_strconv_uint64pow10)] }
def FnTipOfSaid : Prop := fnTipOfRow.holds Tryd.pinned (OpenSpec.ofChange fnTipOfSpec)

/-- ITS FALSE NEIGHBOUR: 'it returns false'. Refute it at one input. -/
def fnTipOfWrong : ChangeSpec := { name := "fnTipOf", fn := fun _ => fun
  | [d] => { results := [.lit (.bool false)], args := [d] }
  | _ => none }
def FnTipOfWrongFalsely : Prop := fnTipOfRow.holds Tryd.pinned (OpenSpec.ofChange fnTipOfWrong)

/-- 'laws.FnOwedValid': WHATEVER THE INPUT: true; the input reads as it did. -/
def fnOwedValidSpec : ChangeSpec := { name := "fnOwedValid", fn := fun _ => fun
  | [d] => { results := [.lit (.bool true)], args := [d] }
  | _ => none }
def fnOwedValidRow : OpenClaim := { program := "yteocmjffjinphaadoor", sum := "0041f8b7d1783dad368b261228da15a164198aafa147b5f8fadd4130c38ba03b", func := "loop.example/restaurantkitchen/laws.FnOwedValid", spec := "fnOwedValid", inPlace := ["internal/abi.NoEscape", "internal/bytealg.MakeNoZero"], named := ["internal/strconv.uint64pow10", "math/bits.deBruijn32tab", "math/bits.deBruijn64tab"], apart := false, laid := [("math/bits.deBruijn32tab", laid_math_bits_deBruijn32tab), ("math/bits.deBruijn64tab", laid_math_bits_deBruijn64tab), ("internal/strconv.uint64pow10", laid_internal_strconv_uint64pow10)] }
def FnOwedValidSaid : Prop := fnOwedValidRow.holds Tryd.pinned (OpenSpec.ofChange fnOwedValidSpec)

/-- ITS FALSE NEIGHBOUR: 'it returns false'. Refute it at one input. -/
def fnOwedValidWrong : ChangeSpec := { name := "fnOwedValid", fn := fun _ => fun
  | [d] => { results := [.lit (.bool false)], args := [d] }
  | _ => none }
def FnOwedValidWrongFalsely : Prop := fnOwedValidRow.holds Tryd.pinned (OpenSpec.ofChange fnOwedValidWrong)

/-- 'laws.FnOwedOf': WHATEVER THE INPUT: true; the input reads as it did. -/
def fnOwedOfSpec : ChangeSpec := { name := "fnOwedOf", fn := fun _ => fun
  | [d] => { results := [.lit (.bool true)], args := [d] }
  | _ => none }
def fnOwedOfRow : OpenClaim := { program := "yteocmjffjinphaadoor", sum := "0041f8b7d1783dad368b261228da15a164198aafa147b5f8fadd4130c38ba03b", func := "loop.example/restaurantkitchen/laws.FnOwedOf", spec := "fnOwedOf", inPlace := ["internal/abi.NoEscape", "internal/bytealg.MakeNoZero"], unfollowed := true, recurses := true, named := ["internal/strconv.uint64pow10", "math/bits.deBruijn32tab", "math/bits.deBruijn64tab"], apart := false, laid := [("math/bits.deBruijn32tab", laid_math_bits_deBruijn32tab), ("math/bits.deBruijn64tab", laid_math_bits_deBruijn64tab), ("internal/strconv.uint64pow10", laid_internal_strconv_uint64pow10)] }
def FnOwedOfSaid : Prop := fnOwedOfRow.holds Tryd.pinned (OpenSpec.ofChange fnOwedOfSpec)

/-- ITS FALSE NEIGHBOUR: 'it returns false'. Refute it at one input. -/
def fnOwedOfWrong : ChangeSpec := { name := "fnOwedOf", fn := fun _ => fun
  | [d] => { results := [.lit (.bool false)], args := [d] }
  | _ => none }
def FnOwedOfWrongFalsely : Prop := fnOwedOfRow.holds Tryd.pinned (OpenSpec.ofChange fnOwedOfWrong)

/-- 'laws.FnSettleFast': WHATEVER THE INPUT: true; the input reads as it did. -/
def fnSettleFastSpec : ChangeSpec := { name := "fnSettleFast", fn := fun _ => fun
  | [d] => { results := [.lit (.bool true)], args := [d] }
  | _ => none }
def fnSettleFastRow : OpenClaim := { program := "yteocmjffjinphaadoor", sum := "0041f8b7d1783dad368b261228da15a164198aafa147b5f8fadd4130c38ba03b", func := "loop.example/restaurantkitchen/laws.FnSettleFast", spec := "fnSettleFast", inPlace := ["internal/abi.NoEscape", "internal/bytealg.MakeNoZero"], named := ["internal/strconv.uint64pow10", "math/bits.deBruijn32tab", "math/bits.deBruijn64tab"], apart := false, laid := [("math/bits.deBruijn32tab", laid_math_bits_deBruijn32tab), ("math/bits.deBruijn64tab", laid_math_bits_deBruijn64tab), ("internal/strconv.uint64pow10", laid_internal_strconv_uint64pow10)] }
def FnSettleFastSaid : Prop := fnSettleFastRow.holds Tryd.pinned (OpenSpec.ofChange fnSettleFastSpec)

/-- ITS FALSE NEIGHBOUR: 'it returns false'. Refute it at one input. -/
def fnSettleFastWrong : ChangeSpec := { name := "fnSettleFast", fn := fun _ => fun
  | [d] => { results := [.lit (.bool false)], args := [d] }
  | _ => none }
def FnSettleFastWrongFalsely : Prop := fnSettleFastRow.holds Tryd.pinned (OpenSpec.ofChange fnSettleFastWrong)

/-- 'laws.FnTicketValid': WHATEVER THE INPUT: true; the input reads as it did. -/
def fnTicketValidSpec : ChangeSpec := { name := "fnTicketValid", vars := ["loop.example/restaurantkitchen/impl.piecesLeft"], fn := fun _ => fun
  | [d, g1] => { results := [.lit (.bool true)], args := [d], vars := [g1] }
  | _ => none }
def fnTicketValidRow : OpenClaim := { program := "yteocmjffjinphaadoor", sum := "0041f8b7d1783dad368b261228da15a164198aafa147b5f8fadd4130c38ba03b", func := "loop.example/restaurantkitchen/laws.FnTicketValid", spec := "fnTicketValid", inPlace := ["internal/abi.NoEscape", "internal/bytealg.MakeNoZero"], named := ["loop.example/restaurantkitchen/impl.piecesLeft", "internal/strconv.uint64pow10", "math/bits.deBruijn32tab", "math/bits.deBruijn64tab"], apart := false, laid := [("math/bits.deBruijn32tab", laid_math_bits_deBruijn32tab), ("math/bits.deBruijn64tab", laid_math_bits_deBruijn64tab), ("internal/strconv.uint64pow10", laid_internal_strconv_uint64pow10), ("loop.example/restaurantkitchen/impl.piecesLeft", laid_loop_example_restaurantkitchen_impl_piecesLeft)] }
def FnTicketValidSaid : Prop := fnTicketValidRow.holds Tryd.pinned (OpenSpec.ofChange fnTicketValidSpec)

/-- ITS FALSE NEIGHBOUR: 'it returns false'. Refute it at one input. -/
def fnTicketValidWrong : ChangeSpec := { name := "fnTicketValid", vars := ["loop.example/restaurantkitchen/impl.piecesLeft"], fn := fun _ => fun
  | [d, g1] => { results := [.lit (.bool false)], args := [d], vars := [g1] }
  | _ => none }
def FnTicketValidWrongFalsely : Prop := fnTicketValidRow.holds Tryd.pinned (OpenSpec.ofChange fnTicketValidWrong)

/- THE SECOND FORM. 'bulk': how many values and letters a reading holds, each counted each time it is reached (what is shared counts as often as it is met; a slice's spare places count too). A statement '..UptoSaid' is the law's where the arguments, and the package variables that the reading takes, are together of bulk at most 1048576: NARROWER than '..Said'. Prove '..Said' where nothing that the law and all that it calls make is longer than what came in: it says more and counts as full. Else prove '..UptoSaid'. A law counts once. -/
mutual
def uptoBulk {H : Type} : DataW H → Nat
  | .lit (.string bytes) => bytes.length + 1
  | .lit _ => 1
  | .nil => 1
  | .ptr d => uptoBulk d + 1
  | .slice elems spare => uptoBulkAll elems + uptoBulkAll spare + 1
  | .agg parts => uptoBulkAll parts + 1
  | .iface _ d => uptoBulk d + 1
  | .map entries => uptoBulkEntries entries + 1
  | .held _ => 1
def uptoBulkAll {H : Type} : List (DataW H) → Nat
  | [] => 0
  | d :: r => uptoBulk d + uptoBulkAll r
def uptoBulkEntries {H : Type} : List (Lit × DataW H) → Nat
  | [] => 0
  | x :: r => uptoBulkEntry x + uptoBulkEntries r
def uptoBulkEntry {H : Type} : Lit × DataW H → Nat
  | (.string bytes, d) => bytes.length + uptoBulk d + 1
  | (_, d) => uptoBulk d + 1
 end
def uptoSmall : (H : Type) → List (DataW H) → Bool := fun _ ds => decide (uptoBulkAll ds ≤ 1048576)
def OpenSpec.upto (s : _root_.Go.ChangeSpec) : _root_.Go.OpenSpec := { _root_.Go.OpenSpec.ofChange s with cond := some uptoSmall }

/-- 'laws.FnDishesValid', WHERE WHAT IT READS IS OF BULK AT MOST 1048576: true; the input reads as it did. -/
def fnDishesValidUptoRow : OpenClaim := { program := "yteocmjffjinphaadoor", sum := "0041f8b7d1783dad368b261228da15a164198aafa147b5f8fadd4130c38ba03b", func := "loop.example/restaurantkitchen/laws.FnDishesValid", spec := "fnDishesValid", inPlace := ["internal/abi.NoEscape", "internal/bytealg.MakeNoZero"], named := ["internal/strconv.uint64pow10", "math/bits.deBruijn32tab", "math/bits.deBruijn64tab"], apart := false, laid := [("math/bits.deBruijn32tab", laid_math_bits_deBruijn32tab), ("math/bits.deBruijn64tab", laid_math_bits_deBruijn64tab), ("internal/strconv.uint64pow10", laid_internal_strconv_uint64pow10)], narrowed := true }
def FnDishesValidUptoSaid : Prop := fnDishesValidUptoRow.holds Tryd.pinned (OpenSpec.upto fnDishesValidSpec)

/-- 'laws.FnOrderOk', WHERE WHAT IT READS IS OF BULK AT MOST 1048576: true; the input reads as it did. -/
def fnOrderOkUptoRow : OpenClaim := { program := "yteocmjffjinphaadoor", sum := "0041f8b7d1783dad368b261228da15a164198aafa147b5f8fadd4130c38ba03b", func := "loop.example/restaurantkitchen/laws.FnOrderOk", spec := "fnOrderOk", inPlace := ["internal/abi.NoEscape", "internal/bytealg.MakeNoZero"], named := ["internal/strconv.uint64pow10", "math/bits.deBruijn32tab", "math/bits.deBruijn64tab"], apart := false, laid := [("math/bits.deBruijn32tab", laid_math_bits_deBruijn32tab), ("math/bits.deBruijn64tab", laid_math_bits_deBruijn64tab), ("internal/strconv.uint64pow10", laid_internal_strconv_uint64pow10)], narrowed := true }
def FnOrderOkUptoSaid : Prop := fnOrderOkUptoRow.holds Tryd.pinned (OpenSpec.upto fnOrderOkSpec)

/-- 'laws.FnSpansValid', WHERE WHAT IT READS IS OF BULK AT MOST 1048576: true; the input reads as it did. -/
def fnSpansValidUptoRow : OpenClaim := { program := "yteocmjffjinphaadoor", sum := "0041f8b7d1783dad368b261228da15a164198aafa147b5f8fadd4130c38ba03b", func := "loop.example/restaurantkitchen/laws.FnSpansValid", spec := "fnSpansValid", inPlace := ["internal/abi.NoEscape", "internal/bytealg.MakeNoZero"], named := ["internal/strconv.uint64pow10", "math/bits.deBruijn32tab", "math/bits.deBruijn64tab"], apart := false, laid := [("math/bits.deBruijn32tab", laid_math_bits_deBruijn32tab), ("math/bits.deBruijn64tab", laid_math_bits_deBruijn64tab), ("internal/strconv.uint64pow10", laid_internal_strconv_uint64pow10)], narrowed := true }
def FnSpansValidUptoSaid : Prop := fnSpansValidUptoRow.holds Tryd.pinned (OpenSpec.upto fnSpansValidSpec)

/-- 'laws.FnBurnOk', WHERE WHAT IT READS IS OF BULK AT MOST 1048576: true; the input reads as it did. -/
def fnBurnOkUptoRow : OpenClaim := { program := "yteocmjffjinphaadoor", sum := "0041f8b7d1783dad368b261228da15a164198aafa147b5f8fadd4130c38ba03b", func := "loop.example/restaurantkitchen/laws.FnBurnOk", spec := "fnBurnOk", inPlace := ["internal/abi.NoEscape", "internal/bytealg.MakeNoZero"], named := ["internal/strconv.uint64pow10", "math/bits.deBruijn32tab", "math/bits.deBruijn64tab"], apart := false, laid := [("math/bits.deBruijn32tab", laid_math_bits_deBruijn32tab), ("math/bits.deBruijn64tab", laid_math_bits_deBruijn64tab), ("internal/strconv.uint64pow10", laid_internal_strconv_uint64pow10)], narrowed := true }
def FnBurnOkUptoSaid : Prop := fnBurnOkUptoRow.holds Tryd.pinned (OpenSpec.upto fnBurnOkSpec)

/-- 'laws.FnTogetherWaits', WHERE WHAT IT READS IS OF BULK AT MOST 1048576: true; the input reads as it did. -/
def fnTogetherWaitsUptoRow : OpenClaim := { program := "yteocmjffjinphaadoor", sum := "0041f8b7d1783dad368b261228da15a164198aafa147b5f8fadd4130c38ba03b", func := "loop.example/restaurantkitchen/laws.FnTogetherWaits", spec := "fnTogetherWaits", inPlace := ["internal/abi.NoEscape", "internal/bytealg.MakeNoZero"], unfollowed := true, recurses := true, named := ["internal/strconv.uint64pow10", "math/bits.deBruijn32tab", "math/bits.deBruijn64tab"], apart := false, laid := [("math/bits.deBruijn32tab", laid_math_bits_deBruijn32tab), ("math/bits.deBruijn64tab", laid_math_bits_deBruijn64tab), ("internal/strconv.uint64pow10", laid_internal_strconv_uint64pow10)], narrowed := true }
def FnTogetherWaitsUptoSaid : Prop := fnTogetherWaitsUptoRow.holds Tryd.pinned (OpenSpec.upto fnTogetherWaitsSpec)

/-- 'laws.FnTogetherBest', WHERE WHAT IT READS IS OF BULK AT MOST 1048576: true; the input reads as it did. -/
def fnTogetherBestUptoRow : OpenClaim := { program := "yteocmjffjinphaadoor", sum := "0041f8b7d1783dad368b261228da15a164198aafa147b5f8fadd4130c38ba03b", func := "loop.example/restaurantkitchen/laws.FnTogetherBest", spec := "fnTogetherBest", inPlace := ["internal/abi.NoEscape", "internal/bytealg.MakeNoZero"], unfollowed := true, recurses := true, named := ["internal/strconv.uint64pow10", "math/bits.deBruijn32tab", "math/bits.deBruijn64tab"], apart := false, laid := [("math/bits.deBruijn32tab", laid_math_bits_deBruijn32tab), ("math/bits.deBruijn64tab", laid_math_bits_deBruijn64tab), ("internal/strconv.uint64pow10", laid_internal_strconv_uint64pow10)], narrowed := true }
def FnTogetherBestUptoSaid : Prop := fnTogetherBestUptoRow.holds Tryd.pinned (OpenSpec.upto fnTogetherBestSpec)

/-- 'laws.FnSharesValid', WHERE WHAT IT READS IS OF BULK AT MOST 1048576: true; the input reads as it did. -/
def fnSharesValidUptoRow : OpenClaim := { program := "yteocmjffjinphaadoor", sum := "0041f8b7d1783dad368b261228da15a164198aafa147b5f8fadd4130c38ba03b", func := "loop.example/restaurantkitchen/laws.FnSharesValid", spec := "fnSharesValid", inPlace := ["internal/abi.NoEscape", "internal/bytealg.MakeNoZero"], named := ["internal/strconv.uint64pow10", "math/bits.deBruijn32tab", "math/bits.deBruijn64tab"], apart := false, laid := [("math/bits.deBruijn32tab", laid_math_bits_deBruijn32tab), ("math/bits.deBruijn64tab", laid_math_bits_deBruijn64tab), ("internal/strconv.uint64pow10", laid_internal_strconv_uint64pow10)], narrowed := true }
def FnSharesValidUptoSaid : Prop := fnSharesValidUptoRow.holds Tryd.pinned (OpenSpec.upto fnSharesValidSpec)

/-- 'laws.FnShareOf', WHERE WHAT IT READS IS OF BULK AT MOST 1048576: true; the input reads as it did. -/
def fnShareOfUptoRow : OpenClaim := { program := "yteocmjffjinphaadoor", sum := "0041f8b7d1783dad368b261228da15a164198aafa147b5f8fadd4130c38ba03b", func := "loop.example/restaurantkitchen/laws.FnShareOf", spec := "fnShareOf", inPlace := ["internal/abi.NoEscape", "internal/bytealg.MakeNoZero"], unfollowed := true, recurses := true, named := ["internal/strconv.uint64pow10", "math/bits.deBruijn32tab", "math/bits.deBruijn64tab"], apart := false, laid := [("math/bits.deBruijn32tab", laid_math_bits_deBruijn32tab), ("math/bits.deBruijn64tab", laid_math_bits_deBruijn64tab), ("internal/strconv.uint64pow10", laid_internal_strconv_uint64pow10)], narrowed := true }
def FnShareOfUptoSaid : Prop := fnShareOfUptoRow.holds Tryd.pinned (OpenSpec.upto fnShareOfSpec)

/-- 'laws.FnTipOf', WHERE WHAT IT READS IS OF BULK AT MOST 1048576: true; the input reads as it did. -/
def fnTipOfUptoRow : OpenClaim := { program := "yteocmjffjinphaadoor", sum := "0041f8b7d1783dad368b261228da15a164198aafa147b5f8fadd4130c38ba03b", func := "loop.example/restaurantkitchen/laws.FnTipOf", spec := "fnTipOf", inPlace := ["internal/abi.NoEscape", "internal/bytealg.MakeNoZero"], named := ["internal/strconv.uint64pow10", "math/bits.deBruijn32tab", "math/bits.deBruijn64tab"], apart := false, laid := [("math/bits.deBruijn32tab", laid_math_bits_deBruijn32tab), ("math/bits.deBruijn64tab", laid_math_bits_deBruijn64tab), ("internal/strconv.uint64pow10", laid_internal_strconv_uint64pow10)], narrowed := true }
def FnTipOfUptoSaid : Prop := fnTipOfUptoRow.holds Tryd.pinned (OpenSpec.upto fnTipOfSpec)

/-- 'laws.FnOwedValid', WHERE WHAT IT READS IS OF BULK AT MOST 1048576: true; the input reads as it did. -/
def fnOwedValidUptoRow : OpenClaim := { program := "yteocmjffjinphaadoor", sum := "0041f8b7d1783dad368b261228da15a164198aafa147b5f8fadd4130c38ba03b", func := "loop.example/restaurantkitchen/laws.FnOwedValid", spec := "fnOwedValid", inPlace := ["internal/abi.NoEscape", "internal/bytealg.MakeNoZero"], named := ["internal/strconv.uint64pow10", "math/bits.deBruijn32tab", "math/bits.deBruijn64tab"], apart := false, laid := [("math/bits.deBruijn32tab", laid_math_bits_deBruijn32tab), ("math/bits.deBruijn64tab", laid_math_bits_deBruijn64tab), ("internal/strconv.uint64pow10", laid_internal_strconv_uint64pow10)], narrowed := true }
def FnOwedValidUptoSaid : Prop := fnOwedValidUptoRow.holds Tryd.pinned (OpenSpec.upto fnOwedValidSpec)

/-- 'laws.FnOwedOf', WHERE WHAT IT READS IS OF BULK AT MOST 1048576: true; the input reads as it did. -/
def fnOwedOfUptoRow : OpenClaim := { program := "yteocmjffjinphaadoor", sum := "0041f8b7d1783dad368b261228da15a164198aafa147b5f8fadd4130c38ba03b", func := "loop.example/restaurantkitchen/laws.FnOwedOf", spec := "fnOwedOf", inPlace := ["internal/abi.NoEscape", "internal/bytealg.MakeNoZero"], unfollowed := true, recurses := true, named := ["internal/strconv.uint64pow10", "math/bits.deBruijn32tab", "math/bits.deBruijn64tab"], apart := false, laid := [("math/bits.deBruijn32tab", laid_math_bits_deBruijn32tab), ("math/bits.deBruijn64tab", laid_math_bits_deBruijn64tab), ("internal/strconv.uint64pow10", laid_internal_strconv_uint64pow10)], narrowed := true }
def FnOwedOfUptoSaid : Prop := fnOwedOfUptoRow.holds Tryd.pinned (OpenSpec.upto fnOwedOfSpec)

/-- 'laws.FnSettleFast', WHERE WHAT IT READS IS OF BULK AT MOST 1048576: true; the input reads as it did. -/
def fnSettleFastUptoRow : OpenClaim := { program := "yteocmjffjinphaadoor", sum := "0041f8b7d1783dad368b261228da15a164198aafa147b5f8fadd4130c38ba03b", func := "loop.example/restaurantkitchen/laws.FnSettleFast", spec := "fnSettleFast", inPlace := ["internal/abi.NoEscape", "internal/bytealg.MakeNoZero"], named := ["internal/strconv.uint64pow10", "math/bits.deBruijn32tab", "math/bits.deBruijn64tab"], apart := false, laid := [("math/bits.deBruijn32tab", laid_math_bits_deBruijn32tab), ("math/bits.deBruijn64tab", laid_math_bits_deBruijn64tab), ("internal/strconv.uint64pow10", laid_internal_strconv_uint64pow10)], narrowed := true }
def FnSettleFastUptoSaid : Prop := fnSettleFastUptoRow.holds Tryd.pinned (OpenSpec.upto fnSettleFastSpec)

/-- 'laws.FnTicketValid', WHERE WHAT IT READS IS OF BULK AT MOST 1048576: true; the input reads as it did. -/
def fnTicketValidUptoRow : OpenClaim := { program := "yteocmjffjinphaadoor", sum := "0041f8b7d1783dad368b261228da15a164198aafa147b5f8fadd4130c38ba03b", func := "loop.example/restaurantkitchen/laws.FnTicketValid", spec := "fnTicketValid", inPlace := ["internal/abi.NoEscape", "internal/bytealg.MakeNoZero"], named := ["loop.example/restaurantkitchen/impl.piecesLeft", "internal/strconv.uint64pow10", "math/bits.deBruijn32tab", "math/bits.deBruijn64tab"], apart := false, laid := [("math/bits.deBruijn32tab", laid_math_bits_deBruijn32tab), ("math/bits.deBruijn64tab", laid_math_bits_deBruijn64tab), ("internal/strconv.uint64pow10", laid_internal_strconv_uint64pow10), ("loop.example/restaurantkitchen/impl.piecesLeft", laid_loop_example_restaurantkitchen_impl_piecesLeft)], narrowed := true }
def FnTicketValidUptoSaid : Prop := fnTicketValidUptoRow.holds Tryd.pinned (OpenSpec.upto fnTicketValidSpec)

end Rows
end Go.Proofs.YteocmjffjinphaaDoor
