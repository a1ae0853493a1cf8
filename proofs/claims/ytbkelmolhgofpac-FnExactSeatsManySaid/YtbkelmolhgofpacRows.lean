/-
  No cell of these rows narrows 'for every input' (looked for: loops, veiled, ifaces, maps, wideKeys, modest, calm, conditions, laid).
  DERIVED. THE GIVEN ROWS OF THIS SEAT. 4 by the template 'for every input the law returns true; each argument reads behind the call as it read before'; 0 by the template 'total and deterministic' (their statements: YtbkelmolhgofpacTotals.lean).
  GIVEN WITH THE SEED: the statements are not yours to turn. If you find one false, say at which input.
  Laid BY PROGRAM, IN A SANDBOX (cutbox-rows.mjs): the forced cells as the released guide's own fill.sh prints them over the translation 9ace8ff86a37bb8e… (all of the seat's roots in one cut). By AI agents, Wed Nov 11 2026. No macro, syntax, notation, axiom, sorry.
-/
import Derived.Test.YtbkelmolhgofpacChecked
import GoSem.Claim
import GoSem.ClaimJoined
import GoSem.ClaimMapViews
import Derived.JoinedTies
import Derived.KernelRfl
namespace Go.Proofs.Ytbkelmolhgofpac
/- THE CELL 'sum', in the pinned program and in every row, IS THE sha256 OF THE DUMP (.gsa) THAT YtbkelmolhgofpacProg.lean LOADS. Nothing in Lean hashes anything: it is a label: what it is worth is what the hold of that sum in a sandbox is worth. -/
noncomputable def Try.pinned : Pinned := { name := "ytbkelmolhgofpac", sum := "9ace8ff86a37bb8ef0995e6145d04e1d0e61cac3e859a0a81d657625fe6d7900", checked := Try.checked }
namespace Rows
def none {H : Type} : Left H := { results := [], args := [] }

/-- 'laws.FnExactSeatsMany': WHATEVER THE INPUT: true; the input reads as it did. -/
def fnExactSeatsManySpec : ChangeSpec := { name := "fnExactSeatsMany", fn := fun _ => fun
  | [d] => { results := [.lit (.bool true)], args := [d] }
  | _ => none }
def fnExactSeatsManyRow : OpenClaim := { program := "ytbkelmolhgofpac", sum := "9ace8ff86a37bb8ef0995e6145d04e1d0e61cac3e859a0a81d657625fe6d7900", func := "loop.example/restaurantkitchen/laws.FnExactSeatsMany", spec := "fnExactSeatsMany", apart := false }
def FnExactSeatsManySaid : Prop := fnExactSeatsManyRow.holds Try.pinned (OpenSpec.ofChange fnExactSeatsManySpec)

/-- ITS FALSE NEIGHBOUR: 'it returns false'. Refute it at one input. -/
def fnExactSeatsManyWrong : ChangeSpec := { name := "fnExactSeatsMany", fn := fun _ => fun
  | [d] => { results := [.lit (.bool false)], args := [d] }
  | _ => none }
def FnExactSeatsManyWrongFalsely : Prop := fnExactSeatsManyRow.holds Try.pinned (OpenSpec.ofChange fnExactSeatsManyWrong)

/-- 'laws.FnExactSeatsFirst': WHATEVER THE INPUT: true; the input reads as it did. -/
def fnExactSeatsFirstSpec : ChangeSpec := { name := "fnExactSeatsFirst", fn := fun _ => fun
  | [d1, d2] => { results := [.lit (.bool true)], args := [d1, d2] }
  | _ => none }
def fnExactSeatsFirstRow : OpenClaim := { program := "ytbkelmolhgofpac", sum := "9ace8ff86a37bb8ef0995e6145d04e1d0e61cac3e859a0a81d657625fe6d7900", func := "loop.example/restaurantkitchen/laws.FnExactSeatsFirst", spec := "fnExactSeatsFirst", apart := false }
def FnExactSeatsFirstSaid : Prop := fnExactSeatsFirstRow.holds Try.pinned (OpenSpec.ofChange fnExactSeatsFirstSpec)

/-- ITS FALSE NEIGHBOUR: 'it returns false'. Refute it at one input. -/
def fnExactSeatsFirstWrong : ChangeSpec := { name := "fnExactSeatsFirst", fn := fun _ => fun
  | [d1, d2] => { results := [.lit (.bool false)], args := [d1, d2] }
  | _ => none }
def FnExactSeatsFirstWrongFalsely : Prop := fnExactSeatsFirstRow.holds Try.pinned (OpenSpec.ofChange fnExactSeatsFirstWrong)

/-- 'laws.FnExactSeatsLeast': WHATEVER THE INPUT: true; the input reads as it did. -/
def fnExactSeatsLeastSpec : ChangeSpec := { name := "fnExactSeatsLeast", fn := fun _ => fun
  | [d1, d2] => { results := [.lit (.bool true)], args := [d1, d2] }
  | _ => none }
def fnExactSeatsLeastRow : OpenClaim := { program := "ytbkelmolhgofpac", sum := "9ace8ff86a37bb8ef0995e6145d04e1d0e61cac3e859a0a81d657625fe6d7900", func := "loop.example/restaurantkitchen/laws.FnExactSeatsLeast", spec := "fnExactSeatsLeast", apart := false }
def FnExactSeatsLeastSaid : Prop := fnExactSeatsLeastRow.holds Try.pinned (OpenSpec.ofChange fnExactSeatsLeastSpec)

/-- ITS FALSE NEIGHBOUR: 'it returns false'. Refute it at one input. -/
def fnExactSeatsLeastWrong : ChangeSpec := { name := "fnExactSeatsLeast", fn := fun _ => fun
  | [d1, d2] => { results := [.lit (.bool false)], args := [d1, d2] }
  | _ => none }
def FnExactSeatsLeastWrongFalsely : Prop := fnExactSeatsLeastRow.holds Try.pinned (OpenSpec.ofChange fnExactSeatsLeastWrong)

/-- 'laws.FnExactCliqueMost': WHATEVER THE INPUT: true; the input reads as it did. -/
def fnExactCliqueMostSpec : ChangeSpec := { name := "fnExactCliqueMost", fn := fun _ => fun
  | [d1, d2] => { results := [.lit (.bool true)], args := [d1, d2] }
  | _ => none }
def fnExactCliqueMostRow : OpenClaim := { program := "ytbkelmolhgofpac", sum := "9ace8ff86a37bb8ef0995e6145d04e1d0e61cac3e859a0a81d657625fe6d7900", func := "loop.example/restaurantkitchen/laws.FnExactCliqueMost", spec := "fnExactCliqueMost", apart := false }
def FnExactCliqueMostSaid : Prop := fnExactCliqueMostRow.holds Try.pinned (OpenSpec.ofChange fnExactCliqueMostSpec)

/-- ITS FALSE NEIGHBOUR: 'it returns false'. Refute it at one input. -/
def fnExactCliqueMostWrong : ChangeSpec := { name := "fnExactCliqueMost", fn := fun _ => fun
  | [d1, d2] => { results := [.lit (.bool false)], args := [d1, d2] }
  | _ => none }
def FnExactCliqueMostWrongFalsely : Prop := fnExactCliqueMostRow.holds Try.pinned (OpenSpec.ofChange fnExactCliqueMostWrong)

/- THE SECOND FORM. 'bulk': how many values and letters a reading holds, each counted each time it is reached (what is shared counts as often as it is met; a slice's spare places count too). A statement '..UptoSaid' is the law's where the arguments, and the package variables that the reading takes, are together of bulk at most 1048576: NARROWER than '..Said'. Prove '..Said' where nothing that the law and all that it calls make is longer than what came in: it says more and counts as full. Else prove '..UptoSaid'. A law counts once. -/
mutual
def uptoBulk {H : Type} : DataW H → Nat
  | .lit (.string bytes) => bytes.length + 1
  | .lit _ => 1
  | .nil => 1
  | .ptr d => uptoBulk d + 1
  | .slice elems spare => uptoBulkAll elems + uptoBulkAll spare + 1
  | .agg parts => uptoBulkAll parts + 1
  | .iface _ d => uptoBulk d + 1
  | .map entries => uptoBulkEntries entries + 1
  | .held _ => 1
def uptoBulkAll {H : Type} : List (DataW H) → Nat
  | [] => 0
  | d :: r => uptoBulk d + uptoBulkAll r
def uptoBulkEntries {H : Type} : List (Lit × DataW H) → Nat
  | [] => 0
  | x :: r => uptoBulkEntry x + uptoBulkEntries r
def uptoBulkEntry {H : Type} : Lit × DataW H → Nat
  | (.string bytes, d) => bytes.length + uptoBulk d + 1
  | (_, d) => uptoBulk d + 1
 end
def uptoSmall : (H : Type) → List (DataW H) → Bool := fun _ ds => decide (uptoBulkAll ds ≤ 1048576)
def OpenSpec.upto (s : _root_.Go.ChangeSpec) : _root_.Go.OpenSpec := { _root_.Go.OpenSpec.ofChange s with cond := some uptoSmall }

/-- 'laws.FnExactSeatsMany', WHERE WHAT IT READS IS OF BULK AT MOST 1048576: true; the input reads as it did. -/
def fnExactSeatsManyUptoRow : OpenClaim := { program := "ytbkelmolhgofpac", sum := "9ace8ff86a37bb8ef0995e6145d04e1d0e61cac3e859a0a81d657625fe6d7900", func := "loop.example/restaurantkitchen/laws.FnExactSeatsMany", spec := "fnExactSeatsMany", apart := false, narrowed := true }
def FnExactSeatsManyUptoSaid : Prop := fnExactSeatsManyUptoRow.holds Try.pinned (OpenSpec.upto fnExactSeatsManySpec)

/-- 'laws.FnExactSeatsFirst', WHERE WHAT IT READS IS OF BULK AT MOST 1048576: true; the input reads as it did. -/
def fnExactSeatsFirstUptoRow : OpenClaim := { program := "ytbkelmolhgofpac", sum := "9ace8ff86a37bb8ef0995e6145d04e1d0e61cac3e859a0a81d657625fe6d7900", func := "loop.example/restaurantkitchen/laws.FnExactSeatsFirst", spec := "fnExactSeatsFirst", apart := false, narrowed := true }
def FnExactSeatsFirstUptoSaid : Prop := fnExactSeatsFirstUptoRow.holds Try.pinned (OpenSpec.upto fnExactSeatsFirstSpec)

/-- 'laws.FnExactSeatsLeast', WHERE WHAT IT READS IS OF BULK AT MOST 1048576: true; the input reads as it did. -/
def fnExactSeatsLeastUptoRow : OpenClaim := { program := "ytbkelmolhgofpac", sum := "9ace8ff86a37bb8ef0995e6145d04e1d0e61cac3e859a0a81d657625fe6d7900", func := "loop.example/restaurantkitchen/laws.FnExactSeatsLeast", spec := "fnExactSeatsLeast", apart := false, narrowed := true }
def FnExactSeatsLeastUptoSaid : Prop := fnExactSeatsLeastUptoRow.holds Try.pinned (OpenSpec.upto fnExactSeatsLeastSpec)

/-- 'laws.FnExactCliqueMost', WHERE WHAT IT READS IS OF BULK AT MOST 1048576: true; the input reads as it did. -/
def fnExactCliqueMostUptoRow : OpenClaim := { program := "ytbkelmolhgofpac", sum := "9ace8ff86a37bb8ef0995e6145d04e1d0e61cac3e859a0a81d657625fe6d7900", func := "loop.example/restaurantkitchen/laws.FnExactCliqueMost", spec := "fnExactCliqueMost", apart := false, narrowed := true }
def FnExactCliqueMostUptoSaid : Prop := fnExactCliqueMostUptoRow.holds Try.pinned (OpenSpec.upto fnExactCliqueMostSpec)

end Rows
end Go.Proofs.Ytbkelmolhgofpac
