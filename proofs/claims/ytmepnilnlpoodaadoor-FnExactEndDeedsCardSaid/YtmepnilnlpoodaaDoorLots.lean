/- Contracts of the helpers that copy, compare, measure, mark and ask lists of lots; the reading of lots among a row's arguments.
   Conditions: lists have at most 1048576 elements. -/
import Derived.Test.YtmepnilnlpoodaaDoorMark
import Derived.Deep.AppendLies
import Derived.Test.YtmepnilnlpoodaaDoorRead2
namespace Go.Proofs.YtmepnilnlpoodaaDoor
open Go.RowKit Go.ChangeShapes Go.WideShapes Go.ChangeAt Go.Deep

structure Lot where
  many : Int
  last : Int

def LotsAt (w : World) (A : Option Addr) (ls : List Lot) : Prop :=
  ∀ i p, ls[i]? = some p → ∃ b off, A = some ⟨b, off, none⟩ ∧ b < w.heap.size ∧ w.cell? ⟨b, off + i * 2, none⟩ = some (.int .i64 p.many) ∧ w.cell? ⟨b, off + i * 2 + 1, none⟩ = some (.int .i64 p.last)

theorem LotsAt.below {w w' : World} {A : Option Addr} {ls : List Lot} (h : LotsAt w A ls) (hb : Below w.heap.size w w') : LotsAt w' A ls := by
  intro i p hp
  obtain ⟨b, off, e, hlt, h1, h2⟩ := h i p hp
  exact ⟨b, off, e, Nat.lt_of_lt_of_le hlt hb.size, (hb.cell hlt).trans h1, (hb.cell hlt).trans h2⟩


def lotCell (ls : List Lot) (j : Nat) : Value :=
  match ls[j / 2]? with
  | some p => if j % 2 = 0 then .int .i64 p.many else .int .i64 p.last
  | none => .int .i64 0

theorem lotCell_even {ls : List Lot} {i : Nat} {p : Lot} (h : ls[i]? = some p) : lotCell ls (i * 2) = .int .i64 p.many := by
  unfold lotCell; rw [show i * 2 / 2 = i from by omega, h]; simp
theorem lotCell_odd {ls : List Lot} {i : Nat} {p : Lot} (h : ls[i]? = some p) : lotCell ls (i * 2 + 1) = .int .i64 p.last := by
  unfold lotCell; rw [show (i * 2 + 1) / 2 = i from by omega, h]; simp

instance : Inhabited Lot := ⟨⟨0, 0⟩⟩

section
variable {H : Type} {enc : TypeId × Value → H} {w : World} {base : Nat} {spare : Nat → Bool} {held : Bool}

end

theorem ownsRow_below {w w' : World} {lo : Nat} {e : TypeId} {size : Nat} {v : Value} {n : Nat} {xs : List Value} (h : w.ownsRow lo e size v n xs) (hb : Below w.heap.size w w') : w'.ownsRow lo e size v n xs := by
  have hlt := h.lt
  obtain ⟨h1, h2⟩ := h
  refine ⟨h1, ?_⟩
  rcases h2 with hn | ⟨g, cap, cur, rfl, hb0, hg, r⟩
  · exact .inl hn
  · exact .inr ⟨g, cap, cur, rfl, hb0, (hb.block g (hlt g rfl).2).trans hg, r⟩

theorem ownsRow_mono {w : World} {lo lo' : Nat} {e : TypeId} {size : Nat} {v : Value} {n : Nat} {xs : List Value} (h : w.ownsRow lo e size v n xs) (hl : lo' ≤ lo) : w.ownsRow lo' e size v n xs := by
  obtain ⟨h1, h2⟩ := h
  refine ⟨h1, ?_⟩
  rcases h2 with hn | ⟨g, cap, cur, rfl, hb0, r⟩
  · exact .inl hn
  · exact .inr ⟨g, cap, cur, rfl, Nat.le_trans hl hb0, r⟩

/-- A row whose cells are told by the index, as a slice that the call owns. -/
theorem ownsRow_of_row {w : World} {lo g : Nat} {e : TypeId} {size n : Nat} {f : Nat → Value} {xs : List Value} (h : w.rowIs g e (n * size) f) (hlo : lo ≤ g) (hn : n ≤ maxLen) (hl : xs.length = n * size) (hx : ∀ i, i < n * size → xs[i]? = some (f i)) :
    w.ownsRow lo e size (.slice (some ⟨g, 0, none⟩) n n) n xs := by
  obtain ⟨cs, hb, hs, hc⟩ := h
  refine ⟨hl, .inr ⟨g, n, cs, rfl, hlo, hb, Nat.le_refl _, hn, hs, ?_⟩⟩
  apply List.ext_getElem?
  intro i
  rw [List.getElem?_take]
  by_cases hi : i < n * size
  · rw [if_pos hi, hx i hi, Array.getElem?_toList, hc i hi]
  · rw [if_neg hi, List.getElem?_eq_none (by omega)]

theorem OwnInts.sl {w : World} {lo g : Nat} {xs : List Int} (h : OwnInts w g xs) (hlo : lo ≤ g) (hn : xs.length ≤ 1048576) : IntSl w lo (.slice (some ⟨g, 0, none⟩) xs.length xs.length) xs :=
  ownsRow_of_row (size := 1) (n := xs.length) (by rw [Nat.mul_one]; exact h) hlo (by unfold maxLen; omega) (by simp) (fun i hi => by
    rw [Nat.mul_one] at hi
    simp [hi])

def lotCells (ls : List Lot) : List Value := ls.flatMap (fun p => [.int .i64 p.many, .int .i64 p.last])
theorem lotCells_cons (q : Lot) (r : List Lot) : lotCells (q :: r) = .int .i64 q.many :: .int .i64 q.last :: lotCells r := by simp [lotCells]
theorem lotCells_at : ∀ {ls : List Lot} {i : Nat} {p : Lot}, ls[i]? = some p → (lotCells ls)[i * 2]? = some (.int .i64 p.many) ∧ (lotCells ls)[i * 2 + 1]? = some (.int .i64 p.last)
  | [], i, p, h => by simp at h
  | q :: r, 0, p, h => by
    obtain rfl : q = p := by simpa using h
    exact ⟨rfl, rfl⟩
  | q :: r, i + 1, p, h => by
    have := lotCells_at (ls := r) (i := i) (p := p) (by simpa using h)
    rw [show (i + 1) * 2 = i * 2 + 1 + 1 from by omega, lotCells_cons]
    exact this
theorem lotCells_len (ls : List Lot) : (lotCells ls).length = ls.length * 2 := by
  induction ls with
  | nil => rfl
  | cons q r ih => rw [lotCells_cons]; simp only [List.length_cons, ih]; omega
theorem lotCells_snoc (ls : List Lot) (p : Lot) : lotCells (ls ++ [p]) = lotCells ls ++ [.int .i64 p.many, .int .i64 p.last] := by simp [lotCells]
theorem lotCells_set (a b : Int) : ∀ (ls : List Lot) (i : Nat), i < ls.length → ((lotCells ls).set (i * 2) (.int .i64 a)).set (i * 2 + 1) (.int .i64 b) = lotCells (ls.set i ⟨a, b⟩)
  | [], i, h => by simp at h
  | q :: r, 0, _ => by rw [List.set_cons_zero, lotCells_cons, lotCells_cons]; rfl
  | q :: r, i + 1, h => by
    have ih := lotCells_set a b r i (by simpa using h)
    rw [List.set_cons_succ, lotCells_cons, lotCells_cons, ← ih, show (i + 1) * 2 = i * 2 + 1 + 1 from by omega]
    rfl
theorem lotCells_cell {ls : List Lot} {j : Nat} (h : j < ls.length * 2) : (lotCells ls)[j]? = some (lotCell ls j) := by
  have hi : j / 2 < ls.length := by omega
  have hx := List.getElem?_eq_getElem hi
  have hc := lotCells_at hx
  rcases (by omega : j = j / 2 * 2 ∨ j = j / 2 * 2 + 1) with e | e
  · rw [e, hc.1, lotCell_even hx]
  · rw [e, hc.2, lotCell_odd hx]

end Go.Proofs.YtmepnilnlpoodaaDoor
