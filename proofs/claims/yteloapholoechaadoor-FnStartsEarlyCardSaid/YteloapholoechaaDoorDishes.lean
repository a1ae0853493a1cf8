/- Lists of dishes: contracts of the helpers that copy, compare, measure, mark and ask them; their reading among a row's arguments; slices that a call owns. (Written by tools/pairs.py.)
   Conditions: lists have at most 1048576 elements. -/
import Derived.Test.YteloapholoechaaDoorMarks2
namespace Go.Proofs.YteloapholoechaaDoor
open Go.RowKit Go.ChangeShapes Go.WideShapes Go.ChangeAt Go.Deep

structure Dish where
  prep : Int
  cook : Int

def DishesAt (w : World) (A : Option Addr) (ls : List Dish) : Prop :=
  ∀ i p, ls[i]? = some p → ∃ b off, A = some ⟨b, off, none⟩ ∧ b < w.heap.size ∧ w.cell? ⟨b, off + i * 2, none⟩ = some (.int .i64 p.prep) ∧ w.cell? ⟨b, off + i * 2 + 1, none⟩ = some (.int .i64 p.cook)

theorem DishesAt.below {w w' : World} {A : Option Addr} {ls : List Dish} (h : DishesAt w A ls) (hb : Below w.heap.size w w') : DishesAt w' A ls := by
  intro i p hp
  obtain ⟨b, off, e, hlt, h1, h2⟩ := h i p hp
  exact ⟨b, off, e, Nat.lt_of_lt_of_le hlt hb.size, (hb.cell hlt).trans h1, (hb.cell hlt).trans h2⟩


def dishCell (ls : List Dish) (j : Nat) : Value :=
  match ls[j / 2]? with
  | some p => if j % 2 = 0 then .int .i64 p.prep else .int .i64 p.cook
  | none => .int .i64 0

theorem dishCell_even {ls : List Dish} {i : Nat} {p : Dish} (h : ls[i]? = some p) : dishCell ls (i * 2) = .int .i64 p.prep := by
  unfold dishCell; rw [show i * 2 / 2 = i from by omega, h]; simp
theorem dishCell_odd {ls : List Dish} {i : Nat} {p : Dish} (h : ls[i]? = some p) : dishCell ls (i * 2 + 1) = .int .i64 p.cook := by
  unfold dishCell; rw [show (i * 2 + 1) / 2 = i from by omega, h]; simp

/-- Block g is the call's own row of the dishes. -/
def OwnDishes (w : World) (g : Nat) (ls : List Dish) : Prop := w.rowIs g 30 (ls.length * 2) (dishCell ls)

theorem OwnDishes.at_ {w : World} {g : Nat} {ls : List Dish} (h : OwnDishes w g ls) : DishesAt w (some ⟨g, 0, none⟩) ls := by
  intro i p hp
  have hi : i < ls.length := (List.getElem?_eq_some_iff.1 hp).1
  refine ⟨g, 0, rfl, h.lt, ?_, ?_⟩
  · rw [← dishCell_even hp, Nat.zero_add]; exact h.cell (by omega)
  · rw [← dishCell_odd hp, Nat.zero_add]; exact h.cell (by omega)

theorem infoDish : (Tryd.prog.info? 30).map (fun i => (i.zero, i.size, i.bytes)) = some (some (.agg #[.int .i64 0, .int .i64 0]), 2, 16) := by kernel_rfl

theorem make_dishes (n : Nat) (hn : n ≤ 1048576) (w : World) :
    (Instr.makeSlice 23 (.int .i64 (n : Int)) (.int .i64 (n : Int))).run Tryd.prog w = .ok (.slice (some ⟨w.heap.size, 0, none⟩) n n) (w.alloc (.cells (madeCells #[.int .i64 0, .int .i64 0] (n * 2)) 30)) := by
  obtain ⟨i0, hi, hz0, hz1, hz2⟩ := info_parts infoDish
  have := run_make (P := Tryd.prog) w 23 30 i0 _ Tryd.underlying23 hi hz0 .i64 .i64 n n (by omega) (by omega) (by rw [hz2]; omega) (by omega)
  simpa [hz1, Value.cells] using this

theorem OwnDishes.below {w w' : World} {g : Nat} {ls : List Dish} (h : OwnDishes w g ls) (hb : Below w.heap.size w w') : OwnDishes w' g ls := World.rowIs.of_block h (hb.block _ (World.rowIs.lt h))

instance : Inhabited Dish := ⟨⟨0, 0⟩⟩

section
variable {H : Type} {enc : TypeId × Value → H} {w : World} {base : Nat} {spare : Nat → Bool} {held : Bool}

end

def dishCells (ls : List Dish) : List Value := ls.flatMap (fun p => [.int .i64 p.prep, .int .i64 p.cook])
theorem dishCells_cons (q : Dish) (r : List Dish) : dishCells (q :: r) = .int .i64 q.prep :: .int .i64 q.cook :: dishCells r := by simp [dishCells]
theorem dishCells_at : ∀ {ls : List Dish} {i : Nat} {p : Dish}, ls[i]? = some p → (dishCells ls)[i * 2]? = some (.int .i64 p.prep) ∧ (dishCells ls)[i * 2 + 1]? = some (.int .i64 p.cook)
  | [], i, p, h => by simp at h
  | q :: r, 0, p, h => by
    obtain rfl : q = p := by simpa using h
    exact ⟨rfl, rfl⟩
  | q :: r, i + 1, p, h => by
    have := dishCells_at (ls := r) (i := i) (p := p) (by simpa using h)
    rw [show (i + 1) * 2 = i * 2 + 1 + 1 from by omega, dishCells_cons]
    exact this
theorem dishCells_len (ls : List Dish) : (dishCells ls).length = ls.length * 2 := by
  induction ls with
  | nil => rfl
  | cons q r ih => rw [dishCells_cons]; simp only [List.length_cons, ih]; omega
theorem dishCells_snoc (ls : List Dish) (p : Dish) : dishCells (ls ++ [p]) = dishCells ls ++ [.int .i64 p.prep, .int .i64 p.cook] := by simp [dishCells]
theorem dishCells_set (a b : Int) : ∀ (ls : List Dish) (i : Nat), i < ls.length → ((dishCells ls).set (i * 2) (.int .i64 a)).set (i * 2 + 1) (.int .i64 b) = dishCells (ls.set i ⟨a, b⟩)
  | [], i, h => by simp at h
  | q :: r, 0, _ => by rw [List.set_cons_zero, dishCells_cons, dishCells_cons]; rfl
  | q :: r, i + 1, h => by
    have ih := dishCells_set a b r i (by simpa using h)
    rw [List.set_cons_succ, dishCells_cons, dishCells_cons, ← ih, show (i + 1) * 2 = i * 2 + 1 + 1 from by omega]
    rfl
theorem dishCells_cell {ls : List Dish} {j : Nat} (h : j < ls.length * 2) : (dishCells ls)[j]? = some (dishCell ls j) := by
  have hi : j / 2 < ls.length := by omega
  have hx := List.getElem?_eq_getElem hi
  have hc := dishCells_at hx
  rcases (by omega : j = j / 2 * 2 ∨ j = j / 2 * 2 + 1) with e | e
  · rw [e, hc.1, dishCell_even hx]
  · rw [e, hc.2, dishCell_odd hx]

/-- The slice value v owns, from block lo on, the dishes. -/
def DishSl (w : World) (lo : Nat) (v : Value) (ls : List Dish) : Prop := w.ownsRow lo 30 2 v ls.length (dishCells ls)

theorem DishSl.form {w : World} {lo : Nat} {v : Value} {ls : List Dish} (h : DishSl w lo v ls) : ∃ A c, v = .slice A ls.length c ∧ DishesAt w A ls := by
  have hlt := h.lt
  rcases h.2 with ⟨hv, hn⟩ | ⟨g, cap, cur, hv, _⟩
  · have : ls = [] := List.eq_nil_of_length_eq_zero hn
    subst this
    exact ⟨none, 0, hv, fun i x hx => by simp at hx⟩
  · refine ⟨some ⟨g, 0, none⟩, cap, hv, fun i p hp => ?_⟩
    subst hv
    have hi : i < ls.length := (List.getElem?_eq_some_iff.1 hp).1
    have hc := dishCells_at hp
    refine ⟨g, 0, rfl, (hlt g rfl).2, ?_, ?_⟩
    · rw [Nat.zero_add, World.ownsRow.cellAt h (i * 2) (by omega)]; exact hc.1
    · rw [Nat.zero_add, World.ownsRow.cellAt h (i * 2 + 1) (by omega)]; exact hc.2

theorem DishSl.dishes {w : World} {lo n c : Nat} {A : Option Addr} {ls : List Dish} (h : DishSl w lo (.slice A n c) ls) : DishesAt w A ls := by
  obtain ⟨A', c', e, hI⟩ := h.form
  injection e with e
  rw [e]
  exact hI

theorem OwnDishes.sl {w : World} {lo g : Nat} {ls : List Dish} (h : OwnDishes w g ls) (hlo : lo ≤ g) (hn : ls.length ≤ 1048576) : DishSl w lo (.slice (some ⟨g, 0, none⟩) ls.length ls.length) ls :=
  ownsRow_of_row (size := 2) (n := ls.length) h hlo (by unfold maxLen; omega) (dishCells_len ls) (fun i hi => dishCells_cell hi)

theorem DishSl.below {w w' : World} {lo : Nat} {v : Value} {ls : List Dish} (h : DishSl w lo v ls) (hb : Below w.heap.size w w') : DishSl w' lo v ls := ownsRow_below h hb
theorem DishSl.row {w w' : World} {lo : Nat} {v : Value} {ls : List Dish} {q : Option Nat} (h : DishSl w lo v ls) (hg : w.grownBy w' q) (hne : v.ownBlock = none ∨ v.ownBlock ≠ q) : DishSl w' lo v ls := World.ownsRow.kept h hg hne

theorem DishSl.store2 {w : World} {lo g n cap : Nat} {ls : List Dish} (h : DishSl w lo (.slice (some ⟨g, 0, none⟩) n cap) ls) (i : Nat) (hi : i < ls.length) (a b : Int) :
    DishSl ((w.setCell ⟨g, i * 2, none⟩ (.int .i64 a)).setCell ⟨g, i * 2 + 1, none⟩ (.int .i64 b)) lo (.slice (some ⟨g, 0, none⟩) n cap) (ls.set i ⟨a, b⟩) := by
  obtain ⟨A, c, e, _⟩ := h.form
  injection e with e1 e2 e3
  subst e2
  have := (World.ownsRow.stored (World.ownsRow.stored h (i * 2) (.int .i64 a)).1 (i * 2 + 1) (.int .i64 b)).1
  unfold DishSl
  rw [← dishCells_set a b ls i hi, List.length_set]
  exact this

/-- Append of one dish, at a step of a region that draws its order. -/
theorem step_push_dish {W : World} {ops : Array Oper} {o : Oper} {a : Act} {K : Act → World → Prop} {Q : Exit → Act → World → Prop} {E : Prop} (hgd : o.guard = none) (s x : Operand)
    (ho : o.op = .call { callee := .builtin .append, args := #[s, x], argTypes := #[23, 23] }) (lo : Nat) (v : Value) (ls : List Dish) (hs : a.eval s = v) (hown : DishSl W lo v ls) (g : Nat) (p : Dish)
    (hx : a.eval x = .slice (some ⟨g, 0, none⟩) 1 1) (hg : W.heap[g]? = some (.cells #[.int .i64 p.prep, .int .i64 p.cook] 30 (0, 0))) (hn : ls.length ≤ 1048576) (hlo : lo ≤ W.heap.size)
    (h : ∀ g' cap w', DishSl w' lo (.slice (some ⟨g', 0, none⟩) (ls.length + 1) cap) (ls ++ [p]) → W.grownBy w' v.ownBlock → K (a.put o.dst (.slice (some ⟨g', 0, none⟩) (ls.length + 1) cap)) w') :
    if Region.wanted o (yielded ops a.tmps) = true then Oper.wp Tryd.prog o a W K Q else E := by
  obtain ⟨i0, hi, hz0, hz1, hz2⟩ := info_parts infoDish
  refine step_append_lies W hgd s x 23 ho lo 30 i0 _ 2 16 Tryd.underlying23 hi hz0 hz1 hz2 rfl (by decide) v ls.length (dishCells ls) hs hown ⟨g, 0, none⟩ 1 1 [.int .i64 p.prep, .int .i64 p.cook] hx rfl
    (World.news_of_block (cs := #[.int .i64 p.prep, .int .i64 p.cook]) hg) (by simp [Value.oneCell']) (by decide) (by unfold maxLen; omega) (by omega) hlo _ rfl ?_
  intro g' cap w' h1 h2 _ _
  refine h g' cap w' ?_ h2
  unfold DishSl
  rw [List.length_append, dishCells_snoc]
  exact h1

/-- Append of one dish, in a plain region. -/
theorem wpList_push_dish {W : World} {ops : Array Oper} {rest : List Oper} {o : Oper} {a : Act} {Q : Exit → Act → World → Prop} (hgd : o.guard = none) (s x : Operand)
    (ho : o.op = .call { callee := .builtin .append, args := #[s, x], argTypes := #[23, 23] }) (lo : Nat) (v : Value) (ls : List Dish) (hs : a.eval s = v) (hown : DishSl W lo v ls) (g : Nat) (p : Dish)
    (hx : a.eval x = .slice (some ⟨g, 0, none⟩) 1 1) (hg : W.heap[g]? = some (.cells #[.int .i64 p.prep, .int .i64 p.cook] 30 (0, 0))) (hn : ls.length ≤ 1048576) (hlo : lo ≤ W.heap.size)
    (h : ∀ g' cap w', DishSl w' lo (.slice (some ⟨g', 0, none⟩) (ls.length + 1) cap) (ls ++ [p]) → W.grownBy w' v.ownBlock → wpList Tryd.prog ops Q rest (a.put o.dst (.slice (some ⟨g', 0, none⟩) (ls.length + 1) cap)) w') :
    wpList Tryd.prog ops Q (o :: rest) a W := by
  obtain ⟨i0, hi, hz0, hz1, hz2⟩ := info_parts infoDish
  refine wpList_append_lies W hgd s x 23 ho lo 30 i0 _ 2 16 Tryd.underlying23 hi hz0 hz1 hz2 rfl (by decide) v ls.length (dishCells ls) hs hown ⟨g, 0, none⟩ 1 1 [.int .i64 p.prep, .int .i64 p.cook] hx rfl
    (World.news_of_block (cs := #[.int .i64 p.prep, .int .i64 p.cook]) hg) (by simp [Value.oneCell']) (by decide) (by unfold maxLen; omega) (by omega) hlo _ rfl ?_
  intro g' cap w' h1 h2 _ _
  refine h g' cap w' ?_ h2
  unfold DishSl
  rw [List.length_append, dishCells_snoc]
  exact h1
def seqDishes (k0 : Int) (n : Nat) : List Dish := (List.range n).map (fun (i : Nat) => ⟨k0 + 2 * (i : Int), k0 + 2 * (i : Int) + 1⟩)
theorem seqDishes_len (k0 : Int) (n : Nat) : (seqDishes k0 n).length = n := by simp [seqDishes]
theorem seqDishes_at {k0 : Int} {n i : Nat} (h : i < n) : (seqDishes k0 n)[i]? = some ⟨k0 + 2 * (i : Int), k0 + 2 * (i : Int) + 1⟩ := by simp [seqDishes, h]
theorem eq_seqDishes {k0 : Int} {ys : List Dish} {n : Nat} (hn : ys.length = n) (h : ∀ i, i < n → ys[i]? = some ⟨k0 + 2 * (i : Int), k0 + 2 * (i : Int) + 1⟩) : ys = seqDishes k0 n := by
  apply List.ext_getElem?
  intro i
  by_cases hi : i < n
  · rw [h i hi, seqDishes_at hi]
  · rw [List.getElem?_eq_none (by omega), List.getElem?_eq_none (by rw [seqDishes_len]; omega)]

end Go.Proofs.YteloapholoechaaDoor
