/- Contracts of toItem, toItemS, eqItem and eqItemS of the exact laws: what is copied reads as the same list of items, in new memory; two readings of one list are equal.
   Conditions: the list and each item's parts have at most 1048576 elements. -/
import Derived.Test.YtgagfaajilbmmabMem
namespace Go.Proofs.Ytgagfaajilbmmab
open Go.RowKit

def itemCell (G : Nat → Nat) (l : List Item) (j : Nat) : Value :=
  match l[j / 3]? with
  | some x => if j % 3 = 0 then .int .i64 x.yield else if j % 3 = 1 then .slice (some ⟨G (j / 3), 0, none⟩) x.parts.length x.parts.length else .int .i64 x.marks
  | none => .int .i64 0

def zeroCell (j : Nat) : Value := if j % 3 = 1 then .slice none 0 0 else .int .i64 0

theorem itemCell0 {G : Nat → Nat} {l : List Item} {i : Nat} {x : Item} (h : l[i]? = some x) : itemCell G l (i * 3) = .int .i64 x.yield := by
  unfold itemCell; rw [show i * 3 / 3 = i from by omega, h]; simp
theorem itemCell1 {G : Nat → Nat} {l : List Item} {i : Nat} {x : Item} (h : l[i]? = some x) : itemCell G l (i * 3 + 1) = .slice (some ⟨G i, 0, none⟩) x.parts.length x.parts.length := by
  unfold itemCell; rw [show (i * 3 + 1) / 3 = i from by omega, h]; simp [show (i * 3 + 1) % 3 = 1 from by omega]
theorem itemCell2 {G : Nat → Nat} {l : List Item} {i : Nat} {x : Item} (h : l[i]? = some x) : itemCell G l (i * 3 + 2) = .int .i64 x.marks := by
  unfold itemCell; rw [show (i * 3 + 2) / 3 = i from by omega, h]; simp [show (i * 3 + 2) % 3 = 2 from by omega]
theorem itemCell_congr {G G' : Nat → Nat} {l : List Item} {j : Nat} (h : G (j / 3) = G' (j / 3)) : itemCell G l j = itemCell G' l j := by
  unfold itemCell; rw [h]

theorem made3 (n : Nat) (i : Nat) (hi : i < n * 3) : (madeCells #[.int .i64 0, .slice none 0 0, .int .i64 0] (n * 3))[i]? = some (zeroCell i) := by
  have : i % 3 = 0 ∨ i % 3 = 1 ∨ i % 3 = 2 := by omega
  rcases this with h | h | h <;> simp [madeCells, zeroCell, hi, h]

end Go.Proofs.Ytgagfaajilbmmab
