/- Lists of dishes: contracts of the helpers that copy, compare, measure, mark and ask them; their reading among a row's arguments; slices that a call owns. (Written by tools/pairs.py.)
   Conditions: lists have at most 1048576 elements. -/
import Derived.Test.YtgagfaajilbmmaaDoorMarks2
namespace Go.Proofs.YtgagfaajilbmmaaDoor
open Go.RowKit Go.ChangeShapes Go.WideShapes Go.ChangeAt Go.Deep

structure Dish where
  prep : Int
  cook : Int

def DishesAt (w : World) (A : Option Addr) (ls : List Dish) : Prop :=
  ∀ i p, ls[i]? = some p → ∃ b off, A = some ⟨b, off, none⟩ ∧ b < w.heap.size ∧ w.cell? ⟨b, off + i * 2, none⟩ = some (.int .i64 p.prep) ∧ w.cell? ⟨b, off + i * 2 + 1, none⟩ = some (.int .i64 p.cook)

theorem DishesAt.below {w w' : World} {A : Option Addr} {ls : List Dish} (h : DishesAt w A ls) (hb : Below w.heap.size w w') : DishesAt w' A ls := by
  intro i p hp
  obtain ⟨b, off, e, hlt, h1, h2⟩ := h i p hp
  exact ⟨b, off, e, Nat.lt_of_lt_of_le hlt hb.size, (hb.cell hlt).trans h1, (hb.cell hlt).trans h2⟩


def dishCell (ls : List Dish) (j : Nat) : Value :=
  match ls[j / 2]? with
  | some p => if j % 2 = 0 then .int .i64 p.prep else .int .i64 p.cook
  | none => .int .i64 0

theorem dishCell_even {ls : List Dish} {i : Nat} {p : Dish} (h : ls[i]? = some p) : dishCell ls (i * 2) = .int .i64 p.prep := by
  unfold dishCell; rw [show i * 2 / 2 = i from by omega, h]; simp
theorem dishCell_odd {ls : List Dish} {i : Nat} {p : Dish} (h : ls[i]? = some p) : dishCell ls (i * 2 + 1) = .int .i64 p.cook := by
  unfold dishCell; rw [show (i * 2 + 1) / 2 = i from by omega, h]; simp

instance : Inhabited Dish := ⟨⟨0, 0⟩⟩

section
variable {H : Type} {enc : TypeId × Value → H} {w : World} {base : Nat} {spare : Nat → Bool} {held : Bool}

end

def dishCells (ls : List Dish) : List Value := ls.flatMap (fun p => [.int .i64 p.prep, .int .i64 p.cook])
theorem dishCells_cons (q : Dish) (r : List Dish) : dishCells (q :: r) = .int .i64 q.prep :: .int .i64 q.cook :: dishCells r := by simp [dishCells]
theorem dishCells_at : ∀ {ls : List Dish} {i : Nat} {p : Dish}, ls[i]? = some p → (dishCells ls)[i * 2]? = some (.int .i64 p.prep) ∧ (dishCells ls)[i * 2 + 1]? = some (.int .i64 p.cook)
  | [], i, p, h => by simp at h
  | q :: r, 0, p, h => by
    obtain rfl : q = p := by simpa using h
    exact ⟨rfl, rfl⟩
  | q :: r, i + 1, p, h => by
    have := dishCells_at (ls := r) (i := i) (p := p) (by simpa using h)
    rw [show (i + 1) * 2 = i * 2 + 1 + 1 from by omega, dishCells_cons]
    exact this
theorem dishCells_len (ls : List Dish) : (dishCells ls).length = ls.length * 2 := by
  induction ls with
  | nil => rfl
  | cons q r ih => rw [dishCells_cons]; simp only [List.length_cons, ih]; omega
theorem dishCells_snoc (ls : List Dish) (p : Dish) : dishCells (ls ++ [p]) = dishCells ls ++ [.int .i64 p.prep, .int .i64 p.cook] := by simp [dishCells]
theorem dishCells_set (a b : Int) : ∀ (ls : List Dish) (i : Nat), i < ls.length → ((dishCells ls).set (i * 2) (.int .i64 a)).set (i * 2 + 1) (.int .i64 b) = dishCells (ls.set i ⟨a, b⟩)
  | [], i, h => by simp at h
  | q :: r, 0, _ => by rw [List.set_cons_zero, dishCells_cons, dishCells_cons]; rfl
  | q :: r, i + 1, h => by
    have ih := dishCells_set a b r i (by simpa using h)
    rw [List.set_cons_succ, dishCells_cons, dishCells_cons, ← ih, show (i + 1) * 2 = i * 2 + 1 + 1 from by omega]
    rfl
theorem dishCells_cell {ls : List Dish} {j : Nat} (h : j < ls.length * 2) : (dishCells ls)[j]? = some (dishCell ls j) := by
  have hi : j / 2 < ls.length := by omega
  have hx := List.getElem?_eq_getElem hi
  have hc := dishCells_at hx
  rcases (by omega : j = j / 2 * 2 ∨ j = j / 2 * 2 + 1) with e | e
  · rw [e, hc.1, dishCell_even hx]
  · rw [e, hc.2, dishCell_odd hx]

def seqDishes (k0 : Int) (n : Nat) : List Dish := (List.range n).map (fun (i : Nat) => ⟨k0 + 2 * (i : Int), k0 + 2 * (i : Int) + 1⟩)
theorem seqDishes_len (k0 : Int) (n : Nat) : (seqDishes k0 n).length = n := by simp [seqDishes]
theorem seqDishes_at {k0 : Int} {n i : Nat} (h : i < n) : (seqDishes k0 n)[i]? = some ⟨k0 + 2 * (i : Int), k0 + 2 * (i : Int) + 1⟩ := by simp [seqDishes, h]
theorem eq_seqDishes {k0 : Int} {ys : List Dish} {n : Nat} (hn : ys.length = n) (h : ∀ i, i < n → ys[i]? = some ⟨k0 + 2 * (i : Int), k0 + 2 * (i : Int) + 1⟩) : ys = seqDishes k0 n := by
  apply List.ext_getElem?
  intro i
  by_cases hi : i < n
  · rw [h i hi, seqDishes_at hi]
  · rw [List.getElem?_eq_none (by omega), List.getElem?_eq_none (by rw [seqDishes_len]; omega)]

end Go.Proofs.YtgagfaajilbmmaaDoor
