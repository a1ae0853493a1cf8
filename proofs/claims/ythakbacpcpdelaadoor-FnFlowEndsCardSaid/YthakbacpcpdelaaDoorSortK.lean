/- slices.SortStableFunc at lists of few numbers, with a comparison that only reads: contracts of the library's insertion sort, of cmp.Compare, and of the program's sort by a key.
   Conditions: lists have at most 19 elements. -/
import Derived.Test.YthakbacpcpdelaaDoorSortMath
import Derived.Test.YthakbacpcpdelaaDoorSlKit
import Derived.Test.YthakbacpcpdelaaDoorTab
import Derived.Deep.QuietTactic
import Derived.BigQuiet
import Derived.BigRegion
import Derived.Shelf.RegionOpenPlain
import Derived.Shelf.Abstract
namespace Go.Proofs.YthakbacpcpdelaaDoor
open Go.RowKit Go.ChangeShapes Go.WideShapes Go.ChangeAt Go.Deep

/-- What is asked of a comparison: in every world that keeps all blocks but the sorted one, at indices below n, it tells how their keys compare; it reads and may draw. -/
def CmpK (w : World) (g n : Nat) (gc : Nat) (cb : Array Value) (key : Int → Int) : Prop :=
  ∀ W, w.grownBy W (some g) → ∀ x y : Int, 0 ≤ x → x < n → 0 ≤ y → y < n → Calls Tryd.prog gc (#[.int .i64 x, .int .i64 y] ++ cb) W fun e W' => e = .returned (.int .i64 (cmpI (key x) (key y))) ∧ ∃ m, W' = W.drewN m
/-- The same of a key. -/
def KeyK (w : World) (g n : Nat) (gk : Nat) (kb : Array Value) (key : Int → Int) : Prop :=
  ∀ W, w.grownBy W (some g) → ∀ x : Int, 0 ≤ x → x < n → Calls Tryd.prog gk (#[.int .i64 x] ++ kb) W fun e W' => e = .returned (.int .i64 (key x)) ∧ ∃ m, W' = W.drewN m

theorem drewN_grown {w W : World} {q : Option Nat} (h : w.grownBy W q) (n : Nat) : w.grownBy (W.drewN n) q := ⟨h.os, h.tape, h.output, h.size, h.block⟩
theorem drewN_ints {W : World} {lo : Nat} {v : Value} {xs : List Int} (h : IntSl W lo v xs) (n : Nat) : IntSl (W.drewN n) lo v xs := h

end Go.Proofs.YthakbacpcpdelaaDoor
