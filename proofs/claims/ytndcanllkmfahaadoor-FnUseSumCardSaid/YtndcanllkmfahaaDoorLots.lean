/- Contracts of the helpers that copy, compare, measure, mark and ask lists of lots; the reading of lots among a row's arguments.
   Conditions: lists have at most 1048576 elements. -/
import Derived.Test.YtndcanllkmfahaaDoorMark
import Derived.Deep.AppendLies
import Derived.Test.YtndcanllkmfahaaDoorRead2
namespace Go.Proofs.YtndcanllkmfahaaDoor
open Go.RowKit Go.ChangeShapes Go.WideShapes Go.ChangeAt Go.Deep

structure Lot where
  many : Int
  last : Int

def LotsAt (w : World) (A : Option Addr) (ls : List Lot) : Prop :=
  ∀ i p, ls[i]? = some p → ∃ b off, A = some ⟨b, off, none⟩ ∧ b < w.heap.size ∧ w.cell? ⟨b, off + i * 2, none⟩ = some (.int .i64 p.many) ∧ w.cell? ⟨b, off + i * 2 + 1, none⟩ = some (.int .i64 p.last)

theorem LotsAt.below {w w' : World} {A : Option Addr} {ls : List Lot} (h : LotsAt w A ls) (hb : Below w.heap.size w w') : LotsAt w' A ls := by
  intro i p hp
  obtain ⟨b, off, e, hlt, h1, h2⟩ := h i p hp
  exact ⟨b, off, e, Nat.lt_of_lt_of_le hlt hb.size, (hb.cell hlt).trans h1, (hb.cell hlt).trans h2⟩


def lotCell (ls : List Lot) (j : Nat) : Value :=
  match ls[j / 2]? with
  | some p => if j % 2 = 0 then .int .i64 p.many else .int .i64 p.last
  | none => .int .i64 0

theorem lotCell_even {ls : List Lot} {i : Nat} {p : Lot} (h : ls[i]? = some p) : lotCell ls (i * 2) = .int .i64 p.many := by
  unfold lotCell; rw [show i * 2 / 2 = i from by omega, h]; simp
theorem lotCell_odd {ls : List Lot} {i : Nat} {p : Lot} (h : ls[i]? = some p) : lotCell ls (i * 2 + 1) = .int .i64 p.last := by
  unfold lotCell; rw [show (i * 2 + 1) / 2 = i from by omega, h]; simp

/-- Block g is the call's own row of the lots. -/
def OwnLots (w : World) (g : Nat) (ls : List Lot) : Prop := w.rowIs g 36 (ls.length * 2) (lotCell ls)

theorem OwnLots.at_ {w : World} {g : Nat} {ls : List Lot} (h : OwnLots w g ls) : LotsAt w (some ⟨g, 0, none⟩) ls := by
  intro i p hp
  have hi : i < ls.length := (List.getElem?_eq_some_iff.1 hp).1
  refine ⟨g, 0, rfl, h.lt, ?_, ?_⟩
  · rw [← lotCell_even hp, Nat.zero_add]; exact h.cell (by omega)
  · rw [← lotCell_odd hp, Nat.zero_add]; exact h.cell (by omega)

theorem infoLot : (Tryd.prog.info? 36).map (fun i => (i.zero, i.size, i.bytes)) = some (some (.agg #[.int .i64 0, .int .i64 0]), 2, 16) := by kernel_rfl

theorem make_lots (n : Nat) (hn : n ≤ 1048576) (w : World) :
    (Instr.makeSlice 23 (.int .i64 (n : Int)) (.int .i64 (n : Int))).run Tryd.prog w = .ok (.slice (some ⟨w.heap.size, 0, none⟩) n n) (w.alloc (.cells (madeCells #[.int .i64 0, .int .i64 0] (n * 2)) 36)) := by
  obtain ⟨i0, hi, hz0, hz1, hz2⟩ := info_parts infoLot
  have := run_make (P := Tryd.prog) w 23 36 i0 _ Tryd.underlying23 hi hz0 .i64 .i64 n n (by omega) (by omega) (by rw [hz2]; omega) (by omega)
  simpa [hz1, Value.cells] using this

theorem OwnLots.below {w w' : World} {g : Nat} {ls : List Lot} (h : OwnLots w g ls) (hb : Below w.heap.size w w') : OwnLots w' g ls := World.rowIs.of_block h (hb.block _ (World.rowIs.lt h))

instance : Inhabited Lot := ⟨⟨0, 0⟩⟩

section
variable {H : Type} {enc : TypeId × Value → H} {w : World} {base : Nat} {spare : Nat → Bool} {held : Bool}

end

theorem ownsRow_below {w w' : World} {lo : Nat} {e : TypeId} {size : Nat} {v : Value} {n : Nat} {xs : List Value} (h : w.ownsRow lo e size v n xs) (hb : Below w.heap.size w w') : w'.ownsRow lo e size v n xs := by
  have hlt := h.lt
  obtain ⟨h1, h2⟩ := h
  refine ⟨h1, ?_⟩
  rcases h2 with hn | ⟨g, cap, cur, rfl, hb0, hg, r⟩
  · exact .inl hn
  · exact .inr ⟨g, cap, cur, rfl, hb0, (hb.block g (hlt g rfl).2).trans hg, r⟩

theorem ownsRow_mono {w : World} {lo lo' : Nat} {e : TypeId} {size : Nat} {v : Value} {n : Nat} {xs : List Value} (h : w.ownsRow lo e size v n xs) (hl : lo' ≤ lo) : w.ownsRow lo' e size v n xs := by
  obtain ⟨h1, h2⟩ := h
  refine ⟨h1, ?_⟩
  rcases h2 with hn | ⟨g, cap, cur, rfl, hb0, r⟩
  · exact .inl hn
  · exact .inr ⟨g, cap, cur, rfl, Nat.le_trans hl hb0, r⟩

/-- A row whose cells are told by the index, as a slice that the call owns. -/
theorem ownsRow_of_row {w : World} {lo g : Nat} {e : TypeId} {size n : Nat} {f : Nat → Value} {xs : List Value} (h : w.rowIs g e (n * size) f) (hlo : lo ≤ g) (hn : n ≤ maxLen) (hl : xs.length = n * size) (hx : ∀ i, i < n * size → xs[i]? = some (f i)) :
    w.ownsRow lo e size (.slice (some ⟨g, 0, none⟩) n n) n xs := by
  obtain ⟨cs, hb, hs, hc⟩ := h
  refine ⟨hl, .inr ⟨g, n, cs, rfl, hlo, hb, Nat.le_refl _, hn, hs, ?_⟩⟩
  apply List.ext_getElem?
  intro i
  rw [List.getElem?_take]
  by_cases hi : i < n * size
  · rw [if_pos hi, hx i hi, Array.getElem?_toList, hc i hi]
  · rw [if_neg hi, List.getElem?_eq_none (by omega)]

theorem OwnInts.sl {w : World} {lo g : Nat} {xs : List Int} (h : OwnInts w g xs) (hlo : lo ≤ g) (hn : xs.length ≤ 1048576) : IntSl w lo (.slice (some ⟨g, 0, none⟩) xs.length xs.length) xs :=
  ownsRow_of_row (size := 1) (n := xs.length) (by rw [Nat.mul_one]; exact h) hlo (by unfold maxLen; omega) (by simp) (fun i hi => by
    rw [Nat.mul_one] at hi
    simp [hi])

def lotCells (ls : List Lot) : List Value := ls.flatMap (fun p => [.int .i64 p.many, .int .i64 p.last])
theorem lotCells_cons (q : Lot) (r : List Lot) : lotCells (q :: r) = .int .i64 q.many :: .int .i64 q.last :: lotCells r := by simp [lotCells]
theorem lotCells_at : ∀ {ls : List Lot} {i : Nat} {p : Lot}, ls[i]? = some p → (lotCells ls)[i * 2]? = some (.int .i64 p.many) ∧ (lotCells ls)[i * 2 + 1]? = some (.int .i64 p.last)
  | [], i, p, h => by simp at h
  | q :: r, 0, p, h => by
    obtain rfl : q = p := by simpa using h
    exact ⟨rfl, rfl⟩
  | q :: r, i + 1, p, h => by
    have := lotCells_at (ls := r) (i := i) (p := p) (by simpa using h)
    rw [show (i + 1) * 2 = i * 2 + 1 + 1 from by omega, lotCells_cons]
    exact this
theorem lotCells_len (ls : List Lot) : (lotCells ls).length = ls.length * 2 := by
  induction ls with
  | nil => rfl
  | cons q r ih => rw [lotCells_cons]; simp only [List.length_cons, ih]; omega
theorem lotCells_snoc (ls : List Lot) (p : Lot) : lotCells (ls ++ [p]) = lotCells ls ++ [.int .i64 p.many, .int .i64 p.last] := by simp [lotCells]
theorem lotCells_set (a b : Int) : ∀ (ls : List Lot) (i : Nat), i < ls.length → ((lotCells ls).set (i * 2) (.int .i64 a)).set (i * 2 + 1) (.int .i64 b) = lotCells (ls.set i ⟨a, b⟩)
  | [], i, h => by simp at h
  | q :: r, 0, _ => by rw [List.set_cons_zero, lotCells_cons, lotCells_cons]; rfl
  | q :: r, i + 1, h => by
    have ih := lotCells_set a b r i (by simpa using h)
    rw [List.set_cons_succ, lotCells_cons, lotCells_cons, ← ih, show (i + 1) * 2 = i * 2 + 1 + 1 from by omega]
    rfl
theorem lotCells_cell {ls : List Lot} {j : Nat} (h : j < ls.length * 2) : (lotCells ls)[j]? = some (lotCell ls j) := by
  have hi : j / 2 < ls.length := by omega
  have hx := List.getElem?_eq_getElem hi
  have hc := lotCells_at hx
  rcases (by omega : j = j / 2 * 2 ∨ j = j / 2 * 2 + 1) with e | e
  · rw [e, hc.1, lotCell_even hx]
  · rw [e, hc.2, lotCell_odd hx]

/-- The slice value v owns, from block lo on, the lots. -/
def LotSl (w : World) (lo : Nat) (v : Value) (ls : List Lot) : Prop := w.ownsRow lo 36 2 v ls.length (lotCells ls)

theorem LotSl.form {w : World} {lo : Nat} {v : Value} {ls : List Lot} (h : LotSl w lo v ls) : ∃ A c, v = .slice A ls.length c ∧ LotsAt w A ls := by
  have hlt := h.lt
  rcases h.2 with ⟨hv, hn⟩ | ⟨g, cap, cur, hv, _⟩
  · have : ls = [] := List.eq_nil_of_length_eq_zero hn
    subst this
    exact ⟨none, 0, hv, fun i x hx => by simp at hx⟩
  · refine ⟨some ⟨g, 0, none⟩, cap, hv, fun i p hp => ?_⟩
    subst hv
    have hi : i < ls.length := (List.getElem?_eq_some_iff.1 hp).1
    have hc := lotCells_at hp
    refine ⟨g, 0, rfl, (hlt g rfl).2, ?_, ?_⟩
    · rw [Nat.zero_add, World.ownsRow.cellAt h (i * 2) (by omega)]; exact hc.1
    · rw [Nat.zero_add, World.ownsRow.cellAt h (i * 2 + 1) (by omega)]; exact hc.2

theorem LotSl.lots {w : World} {lo n c : Nat} {A : Option Addr} {ls : List Lot} (h : LotSl w lo (.slice A n c) ls) : LotsAt w A ls := by
  obtain ⟨A', c', e, hI⟩ := h.form
  injection e with e
  rw [e]
  exact hI

theorem OwnLots.sl {w : World} {lo g : Nat} {ls : List Lot} (h : OwnLots w g ls) (hlo : lo ≤ g) (hn : ls.length ≤ 1048576) : LotSl w lo (.slice (some ⟨g, 0, none⟩) ls.length ls.length) ls :=
  ownsRow_of_row (size := 2) (n := ls.length) h hlo (by unfold maxLen; omega) (lotCells_len ls) (fun i hi => lotCells_cell hi)

theorem LotSl.below {w w' : World} {lo : Nat} {v : Value} {ls : List Lot} (h : LotSl w lo v ls) (hb : Below w.heap.size w w') : LotSl w' lo v ls := ownsRow_below h hb
theorem LotSl.row {w w' : World} {lo : Nat} {v : Value} {ls : List Lot} {q : Option Nat} (h : LotSl w lo v ls) (hg : w.grownBy w' q) (hne : v.ownBlock = none ∨ v.ownBlock ≠ q) : LotSl w' lo v ls := World.ownsRow.kept h hg hne

theorem LotSl.store2 {w : World} {lo g n cap : Nat} {ls : List Lot} (h : LotSl w lo (.slice (some ⟨g, 0, none⟩) n cap) ls) (i : Nat) (hi : i < ls.length) (a b : Int) :
    LotSl ((w.setCell ⟨g, i * 2, none⟩ (.int .i64 a)).setCell ⟨g, i * 2 + 1, none⟩ (.int .i64 b)) lo (.slice (some ⟨g, 0, none⟩) n cap) (ls.set i ⟨a, b⟩) := by
  obtain ⟨A, c, e, _⟩ := h.form
  injection e with e1 e2 e3
  subst e2
  have := (World.ownsRow.stored (World.ownsRow.stored h (i * 2) (.int .i64 a)).1 (i * 2 + 1) (.int .i64 b)).1
  unfold LotSl
  rw [← lotCells_set a b ls i hi, List.length_set]
  exact this

/-- Append of one lot, at a step of a region that draws its order. -/
theorem step_push_lot {W : World} {ops : Array Oper} {o : Oper} {a : Act} {K : Act → World → Prop} {Q : Exit → Act → World → Prop} {E : Prop} (hgd : o.guard = none) (s x : Operand)
    (ho : o.op = .call { callee := .builtin .append, args := #[s, x], argTypes := #[23, 23] }) (lo : Nat) (v : Value) (ls : List Lot) (hs : a.eval s = v) (hown : LotSl W lo v ls) (g : Nat) (p : Lot)
    (hx : a.eval x = .slice (some ⟨g, 0, none⟩) 1 1) (hg : W.heap[g]? = some (.cells #[.int .i64 p.many, .int .i64 p.last] 36 (0, 0))) (hn : ls.length ≤ 1048576) (hlo : lo ≤ W.heap.size)
    (h : ∀ g' cap w', LotSl w' lo (.slice (some ⟨g', 0, none⟩) (ls.length + 1) cap) (ls ++ [p]) → W.grownBy w' v.ownBlock → K (a.put o.dst (.slice (some ⟨g', 0, none⟩) (ls.length + 1) cap)) w') :
    if Region.wanted o (yielded ops a.tmps) = true then Oper.wp Tryd.prog o a W K Q else E := by
  obtain ⟨i0, hi, hz0, hz1, hz2⟩ := info_parts infoLot
  refine step_append_lies W hgd s x 23 ho lo 36 i0 _ 2 16 Tryd.underlying23 hi hz0 hz1 hz2 rfl (by decide) v ls.length (lotCells ls) hs hown ⟨g, 0, none⟩ 1 1 [.int .i64 p.many, .int .i64 p.last] hx rfl
    (World.news_of_block (cs := #[.int .i64 p.many, .int .i64 p.last]) hg) (by simp [Value.oneCell']) (by decide) (by unfold maxLen; omega) (by omega) hlo _ rfl ?_
  intro g' cap w' h1 h2 _ _
  refine h g' cap w' ?_ h2
  unfold LotSl
  rw [List.length_append, lotCells_snoc]
  exact h1

/-- Append of one lot, in a plain region. -/
theorem wpList_push_lot {W : World} {ops : Array Oper} {rest : List Oper} {o : Oper} {a : Act} {Q : Exit → Act → World → Prop} (hgd : o.guard = none) (s x : Operand)
    (ho : o.op = .call { callee := .builtin .append, args := #[s, x], argTypes := #[23, 23] }) (lo : Nat) (v : Value) (ls : List Lot) (hs : a.eval s = v) (hown : LotSl W lo v ls) (g : Nat) (p : Lot)
    (hx : a.eval x = .slice (some ⟨g, 0, none⟩) 1 1) (hg : W.heap[g]? = some (.cells #[.int .i64 p.many, .int .i64 p.last] 36 (0, 0))) (hn : ls.length ≤ 1048576) (hlo : lo ≤ W.heap.size)
    (h : ∀ g' cap w', LotSl w' lo (.slice (some ⟨g', 0, none⟩) (ls.length + 1) cap) (ls ++ [p]) → W.grownBy w' v.ownBlock → wpList Tryd.prog ops Q rest (a.put o.dst (.slice (some ⟨g', 0, none⟩) (ls.length + 1) cap)) w') :
    wpList Tryd.prog ops Q (o :: rest) a W := by
  obtain ⟨i0, hi, hz0, hz1, hz2⟩ := info_parts infoLot
  refine wpList_append_lies W hgd s x 23 ho lo 36 i0 _ 2 16 Tryd.underlying23 hi hz0 hz1 hz2 rfl (by decide) v ls.length (lotCells ls) hs hown ⟨g, 0, none⟩ 1 1 [.int .i64 p.many, .int .i64 p.last] hx rfl
    (World.news_of_block (cs := #[.int .i64 p.many, .int .i64 p.last]) hg) (by simp [Value.oneCell']) (by decide) (by unfold maxLen; omega) (by omega) hlo _ rfl ?_
  intro g' cap w' h1 h2 _ _
  refine h g' cap w' ?_ h2
  unfold LotSl
  rw [List.length_append, lotCells_snoc]
  exact h1
end Go.Proofs.YtndcanllkmfahaaDoor
