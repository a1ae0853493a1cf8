/-
  No cell of these rows narrows 'for every input' (looked for: loops, veiled, ifaces, maps, wideKeys, modest, calm, conditions, laid).
  DERIVED. THE GIVEN ROWS OF THIS SEAT. 10 by the template 'for every input the law returns true; each argument reads behind the call as it read before'; 0 by the template 'total and deterministic' (their statements: YtbkelmolhgofpabTotals.lean).
  GIVEN WITH THE SEED: the statements are not yours to turn. If you find one false, say at which input.
  Laid BY PROGRAM, IN A SANDBOX (cutbox-rows.mjs): the forced cells as the released guide's own fill.sh prints them over the translation 77cb59f7044389cb… (all of the seat's roots in one cut). By AI agents, Wed Nov 11 2026. No macro, syntax, notation, axiom, sorry.
-/
import Derived.Test.YtbkelmolhgofpabChecked
import GoSem.Claim
import GoSem.ClaimJoined
import GoSem.ClaimMapViews
import Derived.JoinedTies
import Derived.KernelRfl
namespace Go.Proofs.Ytbkelmolhgofpab
/- THE CELL 'sum', in the pinned program and in every row, IS THE sha256 OF THE DUMP (.gsa) THAT YtbkelmolhgofpabProg.lean LOADS. Nothing in Lean hashes anything: it is a label: what it is worth is what the hold of that sum in a sandbox is worth. -/
noncomputable def Try.pinned : Pinned := { name := "ytbkelmolhgofpab", sum := "77cb59f7044389cbdf85a5ce8eae53e57ae5d65910bfa7bf0fa43f93d345d6b9", checked := Try.checked }
namespace Rows
def none {H : Type} : Left H := { results := [], args := [] }

/-- 'laws.FnExactMenuValid': WHATEVER THE INPUT: true; the input reads as it did. -/
def fnExactMenuValidSpec : ChangeSpec := { name := "fnExactMenuValid", fn := fun _ => fun
  | [d1, d2] => { results := [.lit (.bool true)], args := [d1, d2] }
  | _ => none }
def fnExactMenuValidRow : OpenClaim := { program := "ytbkelmolhgofpab", sum := "77cb59f7044389cbdf85a5ce8eae53e57ae5d65910bfa7bf0fa43f93d345d6b9", func := "loop.example/restaurantkitchen/laws.FnExactMenuValid", spec := "fnExactMenuValid", apart := false }
def FnExactMenuValidSaid : Prop := fnExactMenuValidRow.holds Try.pinned (OpenSpec.ofChange fnExactMenuValidSpec)

/-- ITS FALSE NEIGHBOUR: 'it returns false'. Refute it at one input. -/
def fnExactMenuValidWrong : ChangeSpec := { name := "fnExactMenuValid", fn := fun _ => fun
  | [d1, d2] => { results := [.lit (.bool false)], args := [d1, d2] }
  | _ => none }
def FnExactMenuValidWrongFalsely : Prop := fnExactMenuValidRow.holds Try.pinned (OpenSpec.ofChange fnExactMenuValidWrong)

/-- 'laws.FnExactFedBy': WHATEVER THE INPUT: true; the input reads as it did. -/
def fnExactFedBySpec : ChangeSpec := { name := "fnExactFedBy", fn := fun _ => fun
  | [d1, d2, d3] => { results := [.lit (.bool true)], args := [d1, d2, d3] }
  | _ => none }
def fnExactFedByRow : OpenClaim := { program := "ytbkelmolhgofpab", sum := "77cb59f7044389cbdf85a5ce8eae53e57ae5d65910bfa7bf0fa43f93d345d6b9", func := "loop.example/restaurantkitchen/laws.FnExactFedBy", spec := "fnExactFedBy", apart := false }
def FnExactFedBySaid : Prop := fnExactFedByRow.holds Try.pinned (OpenSpec.ofChange fnExactFedBySpec)

/-- ITS FALSE NEIGHBOUR: 'it returns false'. Refute it at one input. -/
def fnExactFedByWrong : ChangeSpec := { name := "fnExactFedBy", fn := fun _ => fun
  | [d1, d2, d3] => { results := [.lit (.bool false)], args := [d1, d2, d3] }
  | _ => none }
def FnExactFedByWrongFalsely : Prop := fnExactFedByRow.holds Try.pinned (OpenSpec.ofChange fnExactFedByWrong)

/-- 'laws.FnExactFeedsAll': WHATEVER THE INPUT: true; the input reads as it did. -/
def fnExactFeedsAllSpec : ChangeSpec := { name := "fnExactFeedsAll", fn := fun _ => fun
  | [d1, d2, d3] => { results := [.lit (.bool true)], args := [d1, d2, d3] }
  | _ => none }
def fnExactFeedsAllRow : OpenClaim := { program := "ytbkelmolhgofpab", sum := "77cb59f7044389cbdf85a5ce8eae53e57ae5d65910bfa7bf0fa43f93d345d6b9", func := "loop.example/restaurantkitchen/laws.FnExactFeedsAll", spec := "fnExactFeedsAll", apart := false }
def FnExactFeedsAllSaid : Prop := fnExactFeedsAllRow.holds Try.pinned (OpenSpec.ofChange fnExactFeedsAllSpec)

/-- ITS FALSE NEIGHBOUR: 'it returns false'. Refute it at one input. -/
def fnExactFeedsAllWrong : ChangeSpec := { name := "fnExactFeedsAll", fn := fun _ => fun
  | [d1, d2, d3] => { results := [.lit (.bool false)], args := [d1, d2, d3] }
  | _ => none }
def FnExactFeedsAllWrongFalsely : Prop := fnExactFeedsAllRow.holds Try.pinned (OpenSpec.ofChange fnExactFeedsAllWrong)

/-- 'laws.FnExactDishesLeast': WHATEVER THE INPUT: true; the input reads as it did. -/
def fnExactDishesLeastSpec : ChangeSpec := { name := "fnExactDishesLeast", fn := fun _ => fun
  | [d1, d2] => { results := [.lit (.bool true)], args := [d1, d2] }
  | _ => none }
def fnExactDishesLeastRow : OpenClaim := { program := "ytbkelmolhgofpab", sum := "77cb59f7044389cbdf85a5ce8eae53e57ae5d65910bfa7bf0fa43f93d345d6b9", func := "loop.example/restaurantkitchen/laws.FnExactDishesLeast", spec := "fnExactDishesLeast", unfollowed := true, recurses := true, apart := false }
def FnExactDishesLeastSaid : Prop := fnExactDishesLeastRow.holds Try.pinned (OpenSpec.ofChange fnExactDishesLeastSpec)

/-- ITS FALSE NEIGHBOUR: 'it returns false'. Refute it at one input. -/
def fnExactDishesLeastWrong : ChangeSpec := { name := "fnExactDishesLeast", fn := fun _ => fun
  | [d1, d2] => { results := [.lit (.bool false)], args := [d1, d2] }
  | _ => none }
def FnExactDishesLeastWrongFalsely : Prop := fnExactDishesLeastRow.holds Try.pinned (OpenSpec.ofChange fnExactDishesLeastWrong)

/-- 'laws.FnExactDishesMany': WHATEVER THE INPUT: true; the input reads as it did. -/
def fnExactDishesManySpec : ChangeSpec := { name := "fnExactDishesMany", fn := fun _ => fun
  | [d] => { results := [.lit (.bool true)], args := [d] }
  | _ => none }
def fnExactDishesManyRow : OpenClaim := { program := "ytbkelmolhgofpab", sum := "77cb59f7044389cbdf85a5ce8eae53e57ae5d65910bfa7bf0fa43f93d345d6b9", func := "loop.example/restaurantkitchen/laws.FnExactDishesMany", spec := "fnExactDishesMany", apart := false }
def FnExactDishesManySaid : Prop := fnExactDishesManyRow.holds Try.pinned (OpenSpec.ofChange fnExactDishesManySpec)

/-- ITS FALSE NEIGHBOUR: 'it returns false'. Refute it at one input. -/
def fnExactDishesManyWrong : ChangeSpec := { name := "fnExactDishesMany", fn := fun _ => fun
  | [d] => { results := [.lit (.bool false)], args := [d] }
  | _ => none }
def FnExactDishesManyWrongFalsely : Prop := fnExactDishesManyRow.holds Try.pinned (OpenSpec.ofChange fnExactDishesManyWrong)

/-- 'laws.FnExactDishesGreedy': WHATEVER THE INPUT: true; the input reads as it did. -/
def fnExactDishesGreedySpec : ChangeSpec := { name := "fnExactDishesGreedy", fn := fun _ => fun
  | [d1, d2] => { results := [.lit (.bool true)], args := [d1, d2] }
  | _ => none }
def fnExactDishesGreedyRow : OpenClaim := { program := "ytbkelmolhgofpab", sum := "77cb59f7044389cbdf85a5ce8eae53e57ae5d65910bfa7bf0fa43f93d345d6b9", func := "loop.example/restaurantkitchen/laws.FnExactDishesGreedy", spec := "fnExactDishesGreedy", apart := false }
def FnExactDishesGreedySaid : Prop := fnExactDishesGreedyRow.holds Try.pinned (OpenSpec.ofChange fnExactDishesGreedySpec)

/-- ITS FALSE NEIGHBOUR: 'it returns false'. Refute it at one input. -/
def fnExactDishesGreedyWrong : ChangeSpec := { name := "fnExactDishesGreedy", fn := fun _ => fun
  | [d1, d2] => { results := [.lit (.bool false)], args := [d1, d2] }
  | _ => none }
def FnExactDishesGreedyWrongFalsely : Prop := fnExactDishesGreedyRow.holds Try.pinned (OpenSpec.ofChange fnExactDishesGreedyWrong)

/-- 'laws.FnExactApartValid': WHATEVER THE INPUT: true; the input reads as it did. -/
def fnExactApartValidSpec : ChangeSpec := { name := "fnExactApartValid", fn := fun _ => fun
  | [d1, d2, d3] => { results := [.lit (.bool true)], args := [d1, d2, d3] }
  | _ => none }
def fnExactApartValidRow : OpenClaim := { program := "ytbkelmolhgofpab", sum := "77cb59f7044389cbdf85a5ce8eae53e57ae5d65910bfa7bf0fa43f93d345d6b9", func := "loop.example/restaurantkitchen/laws.FnExactApartValid", spec := "fnExactApartValid", apart := false }
def FnExactApartValidSaid : Prop := fnExactApartValidRow.holds Try.pinned (OpenSpec.ofChange fnExactApartValidSpec)

/-- ITS FALSE NEIGHBOUR: 'it returns false'. Refute it at one input. -/
def fnExactApartValidWrong : ChangeSpec := { name := "fnExactApartValid", fn := fun _ => fun
  | [d1, d2, d3] => { results := [.lit (.bool false)], args := [d1, d2, d3] }
  | _ => none }
def FnExactApartValidWrongFalsely : Prop := fnExactApartValidRow.holds Try.pinned (OpenSpec.ofChange fnExactApartValidWrong)

/-- 'laws.FnExactApartMost': WHATEVER THE INPUT: true; the input reads as it did. -/
def fnExactApartMostSpec : ChangeSpec := { name := "fnExactApartMost", fn := fun _ => fun
  | [d1, d2] => { results := [.lit (.bool true)], args := [d1, d2] }
  | _ => none }
def fnExactApartMostRow : OpenClaim := { program := "ytbkelmolhgofpab", sum := "77cb59f7044389cbdf85a5ce8eae53e57ae5d65910bfa7bf0fa43f93d345d6b9", func := "loop.example/restaurantkitchen/laws.FnExactApartMost", spec := "fnExactApartMost", apart := false }
def FnExactApartMostSaid : Prop := fnExactApartMostRow.holds Try.pinned (OpenSpec.ofChange fnExactApartMostSpec)

/-- ITS FALSE NEIGHBOUR: 'it returns false'. Refute it at one input. -/
def fnExactApartMostWrong : ChangeSpec := { name := "fnExactApartMost", fn := fun _ => fun
  | [d1, d2] => { results := [.lit (.bool false)], args := [d1, d2] }
  | _ => none }
def FnExactApartMostWrongFalsely : Prop := fnExactApartMostRow.holds Try.pinned (OpenSpec.ofChange fnExactApartMostWrong)

/-- 'laws.FnExactQuarrelsValid': WHATEVER THE INPUT: true; the input reads as it did. -/
def fnExactQuarrelsValidSpec : ChangeSpec := { name := "fnExactQuarrelsValid", fn := fun _ => fun
  | [d1, d2] => { results := [.lit (.bool true)], args := [d1, d2] }
  | _ => none }
def fnExactQuarrelsValidRow : OpenClaim := { program := "ytbkelmolhgofpab", sum := "77cb59f7044389cbdf85a5ce8eae53e57ae5d65910bfa7bf0fa43f93d345d6b9", func := "loop.example/restaurantkitchen/laws.FnExactQuarrelsValid", spec := "fnExactQuarrelsValid", apart := false }
def FnExactQuarrelsValidSaid : Prop := fnExactQuarrelsValidRow.holds Try.pinned (OpenSpec.ofChange fnExactQuarrelsValidSpec)

/-- ITS FALSE NEIGHBOUR: 'it returns false'. Refute it at one input. -/
def fnExactQuarrelsValidWrong : ChangeSpec := { name := "fnExactQuarrelsValid", fn := fun _ => fun
  | [d1, d2] => { results := [.lit (.bool false)], args := [d1, d2] }
  | _ => none }
def FnExactQuarrelsValidWrongFalsely : Prop := fnExactQuarrelsValidRow.holds Try.pinned (OpenSpec.ofChange fnExactQuarrelsValidWrong)

/-- 'laws.FnExactSeatsOk': WHATEVER THE INPUT: true; the input reads as it did. -/
def fnExactSeatsOkSpec : ChangeSpec := { name := "fnExactSeatsOk", fn := fun _ => fun
  | [d1, d2, d3] => { results := [.lit (.bool true)], args := [d1, d2, d3] }
  | _ => none }
def fnExactSeatsOkRow : OpenClaim := { program := "ytbkelmolhgofpab", sum := "77cb59f7044389cbdf85a5ce8eae53e57ae5d65910bfa7bf0fa43f93d345d6b9", func := "loop.example/restaurantkitchen/laws.FnExactSeatsOk", spec := "fnExactSeatsOk", apart := false }
def FnExactSeatsOkSaid : Prop := fnExactSeatsOkRow.holds Try.pinned (OpenSpec.ofChange fnExactSeatsOkSpec)

/-- ITS FALSE NEIGHBOUR: 'it returns false'. Refute it at one input. -/
def fnExactSeatsOkWrong : ChangeSpec := { name := "fnExactSeatsOk", fn := fun _ => fun
  | [d1, d2, d3] => { results := [.lit (.bool false)], args := [d1, d2, d3] }
  | _ => none }
def FnExactSeatsOkWrongFalsely : Prop := fnExactSeatsOkRow.holds Try.pinned (OpenSpec.ofChange fnExactSeatsOkWrong)

/- THE SECOND FORM. 'bulk': how many values and letters a reading holds, each counted each time it is reached (what is shared counts as often as it is met; a slice's spare places count too). A statement '..UptoSaid' is the law's where the arguments, and the package variables that the reading takes, are together of bulk at most 1048576: NARROWER than '..Said'. Prove '..Said' where nothing that the law and all that it calls make is longer than what came in: it says more and counts as full. Else prove '..UptoSaid'. A law counts once. -/
mutual
def uptoBulk {H : Type} : DataW H → Nat
  | .lit (.string bytes) => bytes.length + 1
  | .lit _ => 1
  | .nil => 1
  | .ptr d => uptoBulk d + 1
  | .slice elems spare => uptoBulkAll elems + uptoBulkAll spare + 1
  | .agg parts => uptoBulkAll parts + 1
  | .iface _ d => uptoBulk d + 1
  | .map entries => uptoBulkEntries entries + 1
  | .held _ => 1
def uptoBulkAll {H : Type} : List (DataW H) → Nat
  | [] => 0
  | d :: r => uptoBulk d + uptoBulkAll r
def uptoBulkEntries {H : Type} : List (Lit × DataW H) → Nat
  | [] => 0
  | x :: r => uptoBulkEntry x + uptoBulkEntries r
def uptoBulkEntry {H : Type} : Lit × DataW H → Nat
  | (.string bytes, d) => bytes.length + uptoBulk d + 1
  | (_, d) => uptoBulk d + 1
 end
def uptoSmall : (H : Type) → List (DataW H) → Bool := fun _ ds => decide (uptoBulkAll ds ≤ 1048576)
def OpenSpec.upto (s : _root_.Go.ChangeSpec) : _root_.Go.OpenSpec := { _root_.Go.OpenSpec.ofChange s with cond := some uptoSmall }

/-- 'laws.FnExactMenuValid', WHERE WHAT IT READS IS OF BULK AT MOST 1048576: true; the input reads as it did. -/
def fnExactMenuValidUptoRow : OpenClaim := { program := "ytbkelmolhgofpab", sum := "77cb59f7044389cbdf85a5ce8eae53e57ae5d65910bfa7bf0fa43f93d345d6b9", func := "loop.example/restaurantkitchen/laws.FnExactMenuValid", spec := "fnExactMenuValid", apart := false, narrowed := true }
def FnExactMenuValidUptoSaid : Prop := fnExactMenuValidUptoRow.holds Try.pinned (OpenSpec.upto fnExactMenuValidSpec)

/-- 'laws.FnExactFedBy', WHERE WHAT IT READS IS OF BULK AT MOST 1048576: true; the input reads as it did. -/
def fnExactFedByUptoRow : OpenClaim := { program := "ytbkelmolhgofpab", sum := "77cb59f7044389cbdf85a5ce8eae53e57ae5d65910bfa7bf0fa43f93d345d6b9", func := "loop.example/restaurantkitchen/laws.FnExactFedBy", spec := "fnExactFedBy", apart := false, narrowed := true }
def FnExactFedByUptoSaid : Prop := fnExactFedByUptoRow.holds Try.pinned (OpenSpec.upto fnExactFedBySpec)

/-- 'laws.FnExactFeedsAll', WHERE WHAT IT READS IS OF BULK AT MOST 1048576: true; the input reads as it did. -/
def fnExactFeedsAllUptoRow : OpenClaim := { program := "ytbkelmolhgofpab", sum := "77cb59f7044389cbdf85a5ce8eae53e57ae5d65910bfa7bf0fa43f93d345d6b9", func := "loop.example/restaurantkitchen/laws.FnExactFeedsAll", spec := "fnExactFeedsAll", apart := false, narrowed := true }
def FnExactFeedsAllUptoSaid : Prop := fnExactFeedsAllUptoRow.holds Try.pinned (OpenSpec.upto fnExactFeedsAllSpec)

/-- 'laws.FnExactDishesLeast', WHERE WHAT IT READS IS OF BULK AT MOST 1048576: true; the input reads as it did. -/
def fnExactDishesLeastUptoRow : OpenClaim := { program := "ytbkelmolhgofpab", sum := "77cb59f7044389cbdf85a5ce8eae53e57ae5d65910bfa7bf0fa43f93d345d6b9", func := "loop.example/restaurantkitchen/laws.FnExactDishesLeast", spec := "fnExactDishesLeast", unfollowed := true, recurses := true, apart := false, narrowed := true }
def FnExactDishesLeastUptoSaid : Prop := fnExactDishesLeastUptoRow.holds Try.pinned (OpenSpec.upto fnExactDishesLeastSpec)

/-- 'laws.FnExactDishesMany', WHERE WHAT IT READS IS OF BULK AT MOST 1048576: true; the input reads as it did. -/
def fnExactDishesManyUptoRow : OpenClaim := { program := "ytbkelmolhgofpab", sum := "77cb59f7044389cbdf85a5ce8eae53e57ae5d65910bfa7bf0fa43f93d345d6b9", func := "loop.example/restaurantkitchen/laws.FnExactDishesMany", spec := "fnExactDishesMany", apart := false, narrowed := true }
def FnExactDishesManyUptoSaid : Prop := fnExactDishesManyUptoRow.holds Try.pinned (OpenSpec.upto fnExactDishesManySpec)

/-- 'laws.FnExactDishesGreedy', WHERE WHAT IT READS IS OF BULK AT MOST 1048576: true; the input reads as it did. -/
def fnExactDishesGreedyUptoRow : OpenClaim := { program := "ytbkelmolhgofpab", sum := "77cb59f7044389cbdf85a5ce8eae53e57ae5d65910bfa7bf0fa43f93d345d6b9", func := "loop.example/restaurantkitchen/laws.FnExactDishesGreedy", spec := "fnExactDishesGreedy", apart := false, narrowed := true }
def FnExactDishesGreedyUptoSaid : Prop := fnExactDishesGreedyUptoRow.holds Try.pinned (OpenSpec.upto fnExactDishesGreedySpec)

/-- 'laws.FnExactApartValid', WHERE WHAT IT READS IS OF BULK AT MOST 1048576: true; the input reads as it did. -/
def fnExactApartValidUptoRow : OpenClaim := { program := "ytbkelmolhgofpab", sum := "77cb59f7044389cbdf85a5ce8eae53e57ae5d65910bfa7bf0fa43f93d345d6b9", func := "loop.example/restaurantkitchen/laws.FnExactApartValid", spec := "fnExactApartValid", apart := false, narrowed := true }
def FnExactApartValidUptoSaid : Prop := fnExactApartValidUptoRow.holds Try.pinned (OpenSpec.upto fnExactApartValidSpec)

/-- 'laws.FnExactApartMost', WHERE WHAT IT READS IS OF BULK AT MOST 1048576: true; the input reads as it did. -/
def fnExactApartMostUptoRow : OpenClaim := { program := "ytbkelmolhgofpab", sum := "77cb59f7044389cbdf85a5ce8eae53e57ae5d65910bfa7bf0fa43f93d345d6b9", func := "loop.example/restaurantkitchen/laws.FnExactApartMost", spec := "fnExactApartMost", apart := false, narrowed := true }
def FnExactApartMostUptoSaid : Prop := fnExactApartMostUptoRow.holds Try.pinned (OpenSpec.upto fnExactApartMostSpec)

/-- 'laws.FnExactQuarrelsValid', WHERE WHAT IT READS IS OF BULK AT MOST 1048576: true; the input reads as it did. -/
def fnExactQuarrelsValidUptoRow : OpenClaim := { program := "ytbkelmolhgofpab", sum := "77cb59f7044389cbdf85a5ce8eae53e57ae5d65910bfa7bf0fa43f93d345d6b9", func := "loop.example/restaurantkitchen/laws.FnExactQuarrelsValid", spec := "fnExactQuarrelsValid", apart := false, narrowed := true }
def FnExactQuarrelsValidUptoSaid : Prop := fnExactQuarrelsValidUptoRow.holds Try.pinned (OpenSpec.upto fnExactQuarrelsValidSpec)

/-- 'laws.FnExactSeatsOk', WHERE WHAT IT READS IS OF BULK AT MOST 1048576: true; the input reads as it did. -/
def fnExactSeatsOkUptoRow : OpenClaim := { program := "ytbkelmolhgofpab", sum := "77cb59f7044389cbdf85a5ce8eae53e57ae5d65910bfa7bf0fa43f93d345d6b9", func := "loop.example/restaurantkitchen/laws.FnExactSeatsOk", spec := "fnExactSeatsOk", apart := false, narrowed := true }
def FnExactSeatsOkUptoSaid : Prop := fnExactSeatsOkUptoRow.holds Try.pinned (OpenSpec.upto fnExactSeatsOkSpec)

end Rows
end Go.Proofs.Ytbkelmolhgofpab
