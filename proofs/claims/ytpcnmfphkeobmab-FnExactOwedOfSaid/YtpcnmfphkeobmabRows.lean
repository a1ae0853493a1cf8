/-
  No cell of these rows narrows 'for every input' (looked for: loops, veiled, ifaces, maps, wideKeys, modest, calm, conditions, laid).
  DERIVED. THE GIVEN ROWS OF THIS SEAT. 8 by the template 'for every input the law returns true; each argument reads behind the call as it read before'; 0 by the template 'total and deterministic' (their statements: YtpcnmfphkeobmabTotals.lean).
  GIVEN WITH THE SEED: the statements are not yours to turn. If you find one false, say at which input.
  Laid BY PROGRAM, IN A SANDBOX (cutbox-rows.mjs): the forced cells as the released guide's own fill.sh prints them over the translation 5914375915e04f2b… (all of the seat's roots in one cut). By AI agents, Wed Nov 11 2026. No macro, syntax, notation, axiom, sorry.
-/
import Derived.Test.YtpcnmfphkeobmabChecked
import GoSem.Claim
import GoSem.ClaimJoined
import GoSem.ClaimMapViews
import Derived.JoinedTies
import Derived.KernelRfl
namespace Go.Proofs.Ytpcnmfphkeobmab
/- THE CELL 'sum', in the pinned program and in every row, IS THE sha256 OF THE DUMP (.gsa) THAT YtpcnmfphkeobmabProg.lean LOADS. Nothing in Lean hashes anything: it is a label: what it is worth is what the hold of that sum in a sandbox is worth. -/
noncomputable def Try.pinned : Pinned := { name := "ytpcnmfphkeobmab", sum := "5914375915e04f2bae725687f4412204d1b312c8955c76237484818f3c316891", checked := Try.checked }
namespace Rows
def none {H : Type} : Left H := { results := [], args := [] }

/-- 'laws.FnExactTipOf': WHATEVER THE INPUT: true; the input reads as it did. -/
def fnExactTipOfSpec : ChangeSpec := { name := "fnExactTipOf", fn := fun _ => fun
  | [d1, d2] => { results := [.lit (.bool true)], args := [d1, d2] }
  | _ => none }
def fnExactTipOfRow : OpenClaim := { program := "ytpcnmfphkeobmab", sum := "5914375915e04f2bae725687f4412204d1b312c8955c76237484818f3c316891", func := "loop.example/restaurantkitchen/laws.FnExactTipOf", spec := "fnExactTipOf", apart := false }
def FnExactTipOfSaid : Prop := fnExactTipOfRow.holds Try.pinned (OpenSpec.ofChange fnExactTipOfSpec)

/-- ITS FALSE NEIGHBOUR: 'it returns false'. Refute it at one input. -/
def fnExactTipOfWrong : ChangeSpec := { name := "fnExactTipOf", fn := fun _ => fun
  | [d1, d2] => { results := [.lit (.bool false)], args := [d1, d2] }
  | _ => none }
def FnExactTipOfWrongFalsely : Prop := fnExactTipOfRow.holds Try.pinned (OpenSpec.ofChange fnExactTipOfWrong)

/-- 'laws.FnExactOwedValid': WHATEVER THE INPUT: true; the input reads as it did. -/
def fnExactOwedValidSpec : ChangeSpec := { name := "fnExactOwedValid", fn := fun _ => fun
  | [d] => { results := [.lit (.bool true)], args := [d] }
  | _ => none }
def fnExactOwedValidRow : OpenClaim := { program := "ytpcnmfphkeobmab", sum := "5914375915e04f2bae725687f4412204d1b312c8955c76237484818f3c316891", func := "loop.example/restaurantkitchen/laws.FnExactOwedValid", spec := "fnExactOwedValid", apart := false }
def FnExactOwedValidSaid : Prop := fnExactOwedValidRow.holds Try.pinned (OpenSpec.ofChange fnExactOwedValidSpec)

/-- ITS FALSE NEIGHBOUR: 'it returns false'. Refute it at one input. -/
def fnExactOwedValidWrong : ChangeSpec := { name := "fnExactOwedValid", fn := fun _ => fun
  | [d] => { results := [.lit (.bool false)], args := [d] }
  | _ => none }
def FnExactOwedValidWrongFalsely : Prop := fnExactOwedValidRow.holds Try.pinned (OpenSpec.ofChange fnExactOwedValidWrong)

/-- 'laws.FnExactOwedOf': WHATEVER THE INPUT: true; the input reads as it did. -/
def fnExactOwedOfSpec : ChangeSpec := { name := "fnExactOwedOf", fn := fun _ => fun
  | [d1, d2] => { results := [.lit (.bool true)], args := [d1, d2] }
  | _ => none }
def fnExactOwedOfRow : OpenClaim := { program := "ytpcnmfphkeobmab", sum := "5914375915e04f2bae725687f4412204d1b312c8955c76237484818f3c316891", func := "loop.example/restaurantkitchen/laws.FnExactOwedOf", spec := "fnExactOwedOf", unfollowed := true, recurses := true, apart := false }
def FnExactOwedOfSaid : Prop := fnExactOwedOfRow.holds Try.pinned (OpenSpec.ofChange fnExactOwedOfSpec)

/-- ITS FALSE NEIGHBOUR: 'it returns false'. Refute it at one input. -/
def fnExactOwedOfWrong : ChangeSpec := { name := "fnExactOwedOf", fn := fun _ => fun
  | [d1, d2] => { results := [.lit (.bool false)], args := [d1, d2] }
  | _ => none }
def FnExactOwedOfWrongFalsely : Prop := fnExactOwedOfRow.holds Try.pinned (OpenSpec.ofChange fnExactOwedOfWrong)

/-- 'laws.FnExactPaysOk': WHATEVER THE INPUT: true; the input reads as it did. -/
def fnExactPaysOkSpec : ChangeSpec := { name := "fnExactPaysOk", fn := fun _ => fun
  | [d1, d2] => { results := [.lit (.bool true)], args := [d1, d2] }
  | _ => none }
def fnExactPaysOkRow : OpenClaim := { program := "ytpcnmfphkeobmab", sum := "5914375915e04f2bae725687f4412204d1b312c8955c76237484818f3c316891", func := "loop.example/restaurantkitchen/laws.FnExactPaysOk", spec := "fnExactPaysOk", apart := false }
def FnExactPaysOkSaid : Prop := fnExactPaysOkRow.holds Try.pinned (OpenSpec.ofChange fnExactPaysOkSpec)

/-- ITS FALSE NEIGHBOUR: 'it returns false'. Refute it at one input. -/
def fnExactPaysOkWrong : ChangeSpec := { name := "fnExactPaysOk", fn := fun _ => fun
  | [d1, d2] => { results := [.lit (.bool false)], args := [d1, d2] }
  | _ => none }
def FnExactPaysOkWrongFalsely : Prop := fnExactPaysOkRow.holds Try.pinned (OpenSpec.ofChange fnExactPaysOkWrong)

/-- 'laws.FnExactSettleFast': WHATEVER THE INPUT: true; the input reads as it did. -/
def fnExactSettleFastSpec : ChangeSpec := { name := "fnExactSettleFast", fn := fun _ => fun
  | [d] => { results := [.lit (.bool true)], args := [d] }
  | _ => none }
def fnExactSettleFastRow : OpenClaim := { program := "ytpcnmfphkeobmab", sum := "5914375915e04f2bae725687f4412204d1b312c8955c76237484818f3c316891", func := "loop.example/restaurantkitchen/laws.FnExactSettleFast", spec := "fnExactSettleFast", apart := false }
def FnExactSettleFastSaid : Prop := fnExactSettleFastRow.holds Try.pinned (OpenSpec.ofChange fnExactSettleFastSpec)

/-- ITS FALSE NEIGHBOUR: 'it returns false'. Refute it at one input. -/
def fnExactSettleFastWrong : ChangeSpec := { name := "fnExactSettleFast", fn := fun _ => fun
  | [d] => { results := [.lit (.bool false)], args := [d] }
  | _ => none }
def FnExactSettleFastWrongFalsely : Prop := fnExactSettleFastRow.holds Try.pinned (OpenSpec.ofChange fnExactSettleFastWrong)

/-- 'laws.FnExactGroupsMost': WHATEVER THE INPUT: true; the input reads as it did. -/
def fnExactGroupsMostSpec : ChangeSpec := { name := "fnExactGroupsMost", fn := fun _ => fun
  | [d] => { results := [.lit (.bool true)], args := [d] }
  | _ => none }
def fnExactGroupsMostRow : OpenClaim := { program := "ytpcnmfphkeobmab", sum := "5914375915e04f2bae725687f4412204d1b312c8955c76237484818f3c316891", func := "loop.example/restaurantkitchen/laws.FnExactGroupsMost", spec := "fnExactGroupsMost", apart := false }
def FnExactGroupsMostSaid : Prop := fnExactGroupsMostRow.holds Try.pinned (OpenSpec.ofChange fnExactGroupsMostSpec)

/-- ITS FALSE NEIGHBOUR: 'it returns false'. Refute it at one input. -/
def fnExactGroupsMostWrong : ChangeSpec := { name := "fnExactGroupsMost", fn := fun _ => fun
  | [d] => { results := [.lit (.bool false)], args := [d] }
  | _ => none }
def FnExactGroupsMostWrongFalsely : Prop := fnExactGroupsMostRow.holds Try.pinned (OpenSpec.ofChange fnExactGroupsMostWrong)

/-- 'laws.FnExactSettleLeast': WHATEVER THE INPUT: true; the input reads as it did. -/
def fnExactSettleLeastSpec : ChangeSpec := { name := "fnExactSettleLeast", fn := fun _ => fun
  | [d] => { results := [.lit (.bool true)], args := [d] }
  | _ => none }
def fnExactSettleLeastRow : OpenClaim := { program := "ytpcnmfphkeobmab", sum := "5914375915e04f2bae725687f4412204d1b312c8955c76237484818f3c316891", func := "loop.example/restaurantkitchen/laws.FnExactSettleLeast", spec := "fnExactSettleLeast", apart := false }
def FnExactSettleLeastSaid : Prop := fnExactSettleLeastRow.holds Try.pinned (OpenSpec.ofChange fnExactSettleLeastSpec)

/-- ITS FALSE NEIGHBOUR: 'it returns false'. Refute it at one input. -/
def fnExactSettleLeastWrong : ChangeSpec := { name := "fnExactSettleLeast", fn := fun _ => fun
  | [d] => { results := [.lit (.bool false)], args := [d] }
  | _ => none }
def FnExactSettleLeastWrongFalsely : Prop := fnExactSettleLeastRow.holds Try.pinned (OpenSpec.ofChange fnExactSettleLeastWrong)

/-- 'laws.FnExactSettleBest': WHATEVER THE INPUT: true; the input reads as it did. -/
def fnExactSettleBestSpec : ChangeSpec := { name := "fnExactSettleBest", fn := fun _ => fun
  | [d] => { results := [.lit (.bool true)], args := [d] }
  | _ => none }
def fnExactSettleBestRow : OpenClaim := { program := "ytpcnmfphkeobmab", sum := "5914375915e04f2bae725687f4412204d1b312c8955c76237484818f3c316891", func := "loop.example/restaurantkitchen/laws.FnExactSettleBest", spec := "fnExactSettleBest", apart := false }
def FnExactSettleBestSaid : Prop := fnExactSettleBestRow.holds Try.pinned (OpenSpec.ofChange fnExactSettleBestSpec)

/-- ITS FALSE NEIGHBOUR: 'it returns false'. Refute it at one input. -/
def fnExactSettleBestWrong : ChangeSpec := { name := "fnExactSettleBest", fn := fun _ => fun
  | [d] => { results := [.lit (.bool false)], args := [d] }
  | _ => none }
def FnExactSettleBestWrongFalsely : Prop := fnExactSettleBestRow.holds Try.pinned (OpenSpec.ofChange fnExactSettleBestWrong)

/- THE SECOND FORM. 'bulk': how many values and letters a reading holds, each counted each time it is reached (what is shared counts as often as it is met; a slice's spare places count too). A statement '..UptoSaid' is the law's where the arguments, and the package variables that the reading takes, are together of bulk at most 1048576: NARROWER than '..Said'. Prove '..Said' where nothing that the law and all that it calls make is longer than what came in: it says more and counts as full. Else prove '..UptoSaid'. A law counts once. -/
mutual
def uptoBulk {H : Type} : DataW H → Nat
  | .lit (.string bytes) => bytes.length + 1
  | .lit _ => 1
  | .nil => 1
  | .ptr d => uptoBulk d + 1
  | .slice elems spare => uptoBulkAll elems + uptoBulkAll spare + 1
  | .agg parts => uptoBulkAll parts + 1
  | .iface _ d => uptoBulk d + 1
  | .map entries => uptoBulkEntries entries + 1
  | .held _ => 1
def uptoBulkAll {H : Type} : List (DataW H) → Nat
  | [] => 0
  | d :: r => uptoBulk d + uptoBulkAll r
def uptoBulkEntries {H : Type} : List (Lit × DataW H) → Nat
  | [] => 0
  | x :: r => uptoBulkEntry x + uptoBulkEntries r
def uptoBulkEntry {H : Type} : Lit × DataW H → Nat
  | (.string bytes, d) => bytes.length + uptoBulk d + 1
  | (_, d) => uptoBulk d + 1
 end
def uptoSmall : (H : Type) → List (DataW H) → Bool := fun _ ds => decide (uptoBulkAll ds ≤ 1048576)
def OpenSpec.upto (s : _root_.Go.ChangeSpec) : _root_.Go.OpenSpec := { _root_.Go.OpenSpec.ofChange s with cond := some uptoSmall }

/-- 'laws.FnExactTipOf', WHERE WHAT IT READS IS OF BULK AT MOST 1048576: true; the input reads as it did. -/
def fnExactTipOfUptoRow : OpenClaim := { program := "ytpcnmfphkeobmab", sum := "5914375915e04f2bae725687f4412204d1b312c8955c76237484818f3c316891", func := "loop.example/restaurantkitchen/laws.FnExactTipOf", spec := "fnExactTipOf", apart := false, narrowed := true }
def FnExactTipOfUptoSaid : Prop := fnExactTipOfUptoRow.holds Try.pinned (OpenSpec.upto fnExactTipOfSpec)

/-- 'laws.FnExactOwedValid', WHERE WHAT IT READS IS OF BULK AT MOST 1048576: true; the input reads as it did. -/
def fnExactOwedValidUptoRow : OpenClaim := { program := "ytpcnmfphkeobmab", sum := "5914375915e04f2bae725687f4412204d1b312c8955c76237484818f3c316891", func := "loop.example/restaurantkitchen/laws.FnExactOwedValid", spec := "fnExactOwedValid", apart := false, narrowed := true }
def FnExactOwedValidUptoSaid : Prop := fnExactOwedValidUptoRow.holds Try.pinned (OpenSpec.upto fnExactOwedValidSpec)

/-- 'laws.FnExactOwedOf', WHERE WHAT IT READS IS OF BULK AT MOST 1048576: true; the input reads as it did. -/
def fnExactOwedOfUptoRow : OpenClaim := { program := "ytpcnmfphkeobmab", sum := "5914375915e04f2bae725687f4412204d1b312c8955c76237484818f3c316891", func := "loop.example/restaurantkitchen/laws.FnExactOwedOf", spec := "fnExactOwedOf", unfollowed := true, recurses := true, apart := false, narrowed := true }
def FnExactOwedOfUptoSaid : Prop := fnExactOwedOfUptoRow.holds Try.pinned (OpenSpec.upto fnExactOwedOfSpec)

/-- 'laws.FnExactPaysOk', WHERE WHAT IT READS IS OF BULK AT MOST 1048576: true; the input reads as it did. -/
def fnExactPaysOkUptoRow : OpenClaim := { program := "ytpcnmfphkeobmab", sum := "5914375915e04f2bae725687f4412204d1b312c8955c76237484818f3c316891", func := "loop.example/restaurantkitchen/laws.FnExactPaysOk", spec := "fnExactPaysOk", apart := false, narrowed := true }
def FnExactPaysOkUptoSaid : Prop := fnExactPaysOkUptoRow.holds Try.pinned (OpenSpec.upto fnExactPaysOkSpec)

/-- 'laws.FnExactSettleFast', WHERE WHAT IT READS IS OF BULK AT MOST 1048576: true; the input reads as it did. -/
def fnExactSettleFastUptoRow : OpenClaim := { program := "ytpcnmfphkeobmab", sum := "5914375915e04f2bae725687f4412204d1b312c8955c76237484818f3c316891", func := "loop.example/restaurantkitchen/laws.FnExactSettleFast", spec := "fnExactSettleFast", apart := false, narrowed := true }
def FnExactSettleFastUptoSaid : Prop := fnExactSettleFastUptoRow.holds Try.pinned (OpenSpec.upto fnExactSettleFastSpec)

/-- 'laws.FnExactGroupsMost', WHERE WHAT IT READS IS OF BULK AT MOST 1048576: true; the input reads as it did. -/
def fnExactGroupsMostUptoRow : OpenClaim := { program := "ytpcnmfphkeobmab", sum := "5914375915e04f2bae725687f4412204d1b312c8955c76237484818f3c316891", func := "loop.example/restaurantkitchen/laws.FnExactGroupsMost", spec := "fnExactGroupsMost", apart := false, narrowed := true }
def FnExactGroupsMostUptoSaid : Prop := fnExactGroupsMostUptoRow.holds Try.pinned (OpenSpec.upto fnExactGroupsMostSpec)

/-- 'laws.FnExactSettleLeast', WHERE WHAT IT READS IS OF BULK AT MOST 1048576: true; the input reads as it did. -/
def fnExactSettleLeastUptoRow : OpenClaim := { program := "ytpcnmfphkeobmab", sum := "5914375915e04f2bae725687f4412204d1b312c8955c76237484818f3c316891", func := "loop.example/restaurantkitchen/laws.FnExactSettleLeast", spec := "fnExactSettleLeast", apart := false, narrowed := true }
def FnExactSettleLeastUptoSaid : Prop := fnExactSettleLeastUptoRow.holds Try.pinned (OpenSpec.upto fnExactSettleLeastSpec)

/-- 'laws.FnExactSettleBest', WHERE WHAT IT READS IS OF BULK AT MOST 1048576: true; the input reads as it did. -/
def fnExactSettleBestUptoRow : OpenClaim := { program := "ytpcnmfphkeobmab", sum := "5914375915e04f2bae725687f4412204d1b312c8955c76237484818f3c316891", func := "loop.example/restaurantkitchen/laws.FnExactSettleBest", spec := "fnExactSettleBest", apart := false, narrowed := true }
def FnExactSettleBestUptoSaid : Prop := fnExactSettleBestUptoRow.holds Try.pinned (OpenSpec.upto fnExactSettleBestSpec)

end Rows
end Go.Proofs.Ytpcnmfphkeobmab
