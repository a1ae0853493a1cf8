/- Lists of payments: contracts of the helpers that copy, compare, measure, mark and ask them; their reading among a row's arguments; slices that a call owns.
   Conditions: lists have at most 1048576 elements. -/
import Derived.Test.YtgagfaajilbmmaaDoorMarks2
namespace Go.Proofs.YtgagfaajilbmmaaDoor
open Go.RowKit Go.ChangeShapes Go.WideShapes Go.ChangeAt Go.Deep

structure Pay where
  frm : Int
  tow : Int
  sum : Int

def PaysAt (w : World) (A : Option Addr) (ls : List Pay) : Prop :=
  ∀ i p, ls[i]? = some p → ∃ b off, A = some ⟨b, off, none⟩ ∧ b < w.heap.size ∧ w.cell? ⟨b, off + i * 3, none⟩ = some (.int .i64 p.frm) ∧ w.cell? ⟨b, off + i * 3 + 1, none⟩ = some (.int .i64 p.tow) ∧ w.cell? ⟨b, off + i * 3 + 2, none⟩ = some (.int .i64 p.sum)

theorem PaysAt.below {w w' : World} {A : Option Addr} {ls : List Pay} (h : PaysAt w A ls) (hb : Below w.heap.size w w') : PaysAt w' A ls := by
  intro i p hp
  obtain ⟨b, off, e, hlt, h1, h2, h3⟩ := h i p hp
  exact ⟨b, off, e, Nat.lt_of_lt_of_le hlt hb.size, (hb.cell hlt).trans h1, (hb.cell hlt).trans h2, (hb.cell hlt).trans h3⟩

def payCell (ls : List Pay) (j : Nat) : Value :=
  match ls[j / 3]? with
  | some p => if j % 3 = 0 then .int .i64 p.frm else if j % 3 = 1 then .int .i64 p.tow else .int .i64 p.sum
  | none => .int .i64 0

theorem payCell_0 {ls : List Pay} {i : Nat} {p : Pay} (h : ls[i]? = some p) : payCell ls (i * 3) = .int .i64 p.frm := by
  unfold payCell; rw [show i * 3 / 3 = i from by omega, h]; simp
theorem payCell_1 {ls : List Pay} {i : Nat} {p : Pay} (h : ls[i]? = some p) : payCell ls (i * 3 + 1) = .int .i64 p.tow := by
  unfold payCell; rw [show (i * 3 + 1) / 3 = i from by omega, h]; simp
theorem payCell_2 {ls : List Pay} {i : Nat} {p : Pay} (h : ls[i]? = some p) : payCell ls (i * 3 + 2) = .int .i64 p.sum := by
  unfold payCell; rw [show (i * 3 + 2) / 3 = i from by omega, h]; simp

/-- Block g is the call's own row of the payments. -/
def OwnPays (w : World) (g : Nat) (ls : List Pay) : Prop := w.rowIs g 65 (ls.length * 3) (payCell ls)

theorem OwnPays.at_ {w : World} {g : Nat} {ls : List Pay} (h : OwnPays w g ls) : PaysAt w (some ⟨g, 0, none⟩) ls := by
  intro i p hp
  have hi : i < ls.length := (List.getElem?_eq_some_iff.1 hp).1
  refine ⟨g, 0, rfl, h.lt, ?_, ?_, ?_⟩
  · rw [← payCell_0 hp, Nat.zero_add]; exact h.cell (by omega)
  · rw [← payCell_1 hp, Nat.zero_add]; exact h.cell (by omega)
  · rw [← payCell_2 hp, Nat.zero_add]; exact h.cell (by omega)

theorem infoPay : (Tryd.prog.info? 65).map (fun i => (i.zero, i.size, i.bytes)) = some (some (.agg #[.int .i64 0, .int .i64 0, .int .i64 0]), 3, 24) := by kernel_rfl

theorem made3i (n : Nat) (i : Nat) (hi : i < n * 3) : (madeCells #[.int .i64 0, .int .i64 0, .int .i64 0] (n * 3))[i]? = some (.int .i64 0) := by
  have : i % 3 = 0 ∨ i % 3 = 1 ∨ i % 3 = 2 := by omega
  rcases this with h | h | h <;> simp [madeCells, hi, h]

theorem make_pays (n : Nat) (hn : n ≤ 1048576) (w : World) :
    (Instr.makeSlice 55 (.int .i64 (n : Int)) (.int .i64 (n : Int))).run Tryd.prog w = .ok (.slice (some ⟨w.heap.size, 0, none⟩) n n) (w.alloc (.cells (madeCells #[.int .i64 0, .int .i64 0, .int .i64 0] (n * 3)) 65)) := by
  obtain ⟨i0, hi, hz0, hz1, hz2⟩ := info_parts infoPay
  have := run_make (P := Tryd.prog) w 55 65 i0 _ Tryd.underlying55 hi hz0 .i64 .i64 n n (by omega) (by omega) (by rw [hz2]; omega) (by omega)
  simpa [hz1, Value.cells] using this

theorem OwnPays.below {w w' : World} {g : Nat} {ls : List Pay} (h : OwnPays w g ls) (hb : Below w.heap.size w w') : OwnPays w' g ls := World.rowIs.of_block h (hb.block _ (World.rowIs.lt h))

instance : Inhabited Pay := ⟨⟨0, 0, 0⟩⟩

section
variable {H : Type} {enc : TypeId × Value → H} {w : World} {base : Nat} {spare : Nat → Bool} {held : Bool}

theorem three_ints {e : TypeId} {fs : Array Field} {fuel : Nat} {cs : List Value} {x : DataW H × List MemPlace} (he : Tryd.prog.underlying e = some (.struct fs))
    (hs : (fs.map fun f => (f.type, f.offset)) = #[(3, 0), (3, 1), (3, 2)]) (h : DataW.trod enc Tryd.prog w base spare held fuel e cs = some x) :
    ∃ a b d, cs[0]? = some (.int .i64 a) ∧ cs[1]? = some (.int .i64 b) ∧ cs[2]? = some (.int .i64 d) := by
  obtain ⟨xs, n, _, _, _, hlen, hf⟩ := DataW.trod_struct he h
  have g : ∀ (j : Nat) (o : Nat), (fs.map fun f => (f.type, f.offset))[j]? = some (3, o) → ∃ a, cs[o]? = some (.int .i64 a) := by
    intro j o hj
    simp only [Array.getElem?_map, Option.map_eq_some_iff, Prod.mk.injEq] at hj
    obtain ⟨f, hfj, ht, ho⟩ := hj
    have h1 := hf j f hfj
    rw [ht, ho, show Tryd.prog.cellsOf 3 = 1 from by kernel_rfl] at h1
    have hj2 : j < xs.length := by rw [hlen]; exact (Array.getElem?_eq_some_iff.1 hfj).1
    rw [List.getElem?_eq_getElem hj2] at h1
    obtain ⟨a, ha, _⟩ := DataW.trod_int Tryd.underlying3 h1
    refine ⟨a, ?_⟩
    have : ((cs.drop o).take 1)[0]? = some (.int .i64 a) := by rw [ha]; rfl
    simpa [List.getElem?_take, List.getElem?_drop] using this
  obtain ⟨a, ha⟩ := g 0 0 (by rw [hs]; rfl)
  obtain ⟨b, hb⟩ := g 1 1 (by rw [hs]; rfl)
  obtain ⟨d, hd⟩ := g 2 2 (by rw [hs]; rfl)
  exact ⟨a, b, d, ha, hb, hd⟩

end

def payCells (ls : List Pay) : List Value := ls.flatMap (fun p => [.int .i64 p.frm, .int .i64 p.tow, .int .i64 p.sum])
theorem payCells_cons (q : Pay) (r : List Pay) : payCells (q :: r) = .int .i64 q.frm :: .int .i64 q.tow :: .int .i64 q.sum :: payCells r := by simp [payCells]
theorem payCells_at : ∀ {ls : List Pay} {i : Nat} {p : Pay}, ls[i]? = some p → (payCells ls)[i * 3]? = some (.int .i64 p.frm) ∧ (payCells ls)[i * 3 + 1]? = some (.int .i64 p.tow) ∧ (payCells ls)[i * 3 + 2]? = some (.int .i64 p.sum)
  | [], i, p, h => by simp at h
  | q :: r, 0, p, h => by
    obtain rfl : q = p := by simpa using h
    exact ⟨rfl, rfl, rfl⟩
  | q :: r, i + 1, p, h => by
    have := payCells_at (ls := r) (i := i) (p := p) (by simpa using h)
    rw [show (i + 1) * 3 = i * 3 + 1 + 1 + 1 from by omega, payCells_cons]
    exact this
theorem payCells_len (ls : List Pay) : (payCells ls).length = ls.length * 3 := by
  induction ls with
  | nil => rfl
  | cons q r ih => rw [payCells_cons]; simp only [List.length_cons, ih]; omega
theorem payCells_snoc (ls : List Pay) (p : Pay) : payCells (ls ++ [p]) = payCells ls ++ [.int .i64 p.frm, .int .i64 p.tow, .int .i64 p.sum] := by simp [payCells]
theorem payCells_app (ls ms : List Pay) : payCells (ls ++ ms) = payCells ls ++ payCells ms := by simp [payCells]
theorem payCells_set (a b d : Int) : ∀ (ls : List Pay) (i : Nat), i < ls.length → (((payCells ls).set (i * 3) (.int .i64 a)).set (i * 3 + 1) (.int .i64 b)).set (i * 3 + 2) (.int .i64 d) = payCells (ls.set i ⟨a, b, d⟩)
  | [], i, h => by simp at h
  | q :: r, 0, _ => by rw [List.set_cons_zero, payCells_cons, payCells_cons]; rfl
  | q :: r, i + 1, h => by
    have ih := payCells_set a b d r i (by simpa using h)
    rw [List.set_cons_succ, payCells_cons, payCells_cons, ← ih, show (i + 1) * 3 = i * 3 + 1 + 1 + 1 from by omega]
    rfl
theorem payCells_cell {ls : List Pay} {j : Nat} (h : j < ls.length * 3) : (payCells ls)[j]? = some (payCell ls j) := by
  have hi : j / 3 < ls.length := by omega
  have hx := List.getElem?_eq_getElem hi
  have hc := payCells_at hx
  rcases (by omega : j = j / 3 * 3 ∨ j = j / 3 * 3 + 1 ∨ j = j / 3 * 3 + 2) with e | e | e
  · rw [e, hc.1, payCell_0 hx]
  · rw [e, hc.2.1, payCell_1 hx]
  · rw [e, hc.2.2, payCell_2 hx]

/-- The slice value v owns, from block lo on, the payments. -/
def PaySl (w : World) (lo : Nat) (v : Value) (ls : List Pay) : Prop := w.ownsRow lo 65 3 v ls.length (payCells ls)

theorem PaySl.form {w : World} {lo : Nat} {v : Value} {ls : List Pay} (h : PaySl w lo v ls) : ∃ A c, v = .slice A ls.length c ∧ PaysAt w A ls ∧ ∀ b, A = some b → lo ≤ b.block ∧ b.block < w.heap.size := by
  have hlt := h.lt
  rcases h.2 with ⟨hv, hn⟩ | ⟨g, cap, cur, hv, _⟩
  · have : ls = [] := List.eq_nil_of_length_eq_zero hn
    subst this
    exact ⟨none, 0, hv, fun i x hx => by simp at hx, fun b hb => by cases hb⟩
  · refine ⟨some ⟨g, 0, none⟩, cap, hv, fun i p hp => ?_, fun b hb => by injection hb with hb; subst hb; subst hv; exact hlt g rfl⟩
    subst hv
    have hi : i < ls.length := (List.getElem?_eq_some_iff.1 hp).1
    have hc := payCells_at hp
    refine ⟨g, 0, rfl, (hlt g rfl).2, ?_, ?_, ?_⟩
    · rw [Nat.zero_add, World.ownsRow.cellAt h (i * 3) (by omega)]; exact hc.1
    · rw [Nat.zero_add, World.ownsRow.cellAt h (i * 3 + 1) (by omega)]; exact hc.2.1
    · rw [Nat.zero_add, World.ownsRow.cellAt h (i * 3 + 2) (by omega)]; exact hc.2.2

theorem PaySl.pays {w : World} {lo n c : Nat} {A : Option Addr} {ls : List Pay} (h : PaySl w lo (.slice A n c) ls) : PaysAt w A ls := by
  obtain ⟨A', c', e, hI, _⟩ := h.form
  injection e with e
  rw [e]
  exact hI

theorem OwnPays.sl {w : World} {lo g : Nat} {ls : List Pay} (h : OwnPays w g ls) (hlo : lo ≤ g) (hn : ls.length ≤ 1048576) : PaySl w lo (.slice (some ⟨g, 0, none⟩) ls.length ls.length) ls :=
  ownsRow_of_row (size := 3) (n := ls.length) h hlo (by unfold maxLen; omega) (payCells_len ls) (fun i hi => payCells_cell hi)

theorem PaySl.below {w w' : World} {lo : Nat} {v : Value} {ls : List Pay} (h : PaySl w lo v ls) (hb : Below w.heap.size w w') : PaySl w' lo v ls := ownsRow_below h hb
theorem PaySl.row {w w' : World} {lo : Nat} {v : Value} {ls : List Pay} {q : Option Nat} (h : PaySl w lo v ls) (hg : w.grownBy w' q) (hne : v.ownBlock = none ∨ v.ownBlock ≠ q) : PaySl w' lo v ls := World.ownsRow.kept h hg hne

/-- Append of one payment, at a step of a region that draws its order. -/
theorem step_push_pay {W : World} {ops : Array Oper} {o : Oper} {a : Act} {K : Act → World → Prop} {Q : Exit → Act → World → Prop} {E : Prop} (hgd : o.guard = none) (s x : Operand)
    (ho : o.op = .call { callee := .builtin .append, args := #[s, x], argTypes := #[55, 55] }) (lo : Nat) (v : Value) (ls : List Pay) (hs : a.eval s = v) (hown : PaySl W lo v ls) (g : Nat) (p : Pay)
    (hx : a.eval x = .slice (some ⟨g, 0, none⟩) 1 1) (hg : W.heap[g]? = some (.cells #[.int .i64 p.frm, .int .i64 p.tow, .int .i64 p.sum] 65 (0, 0))) (hn : ls.length ≤ 1048576) (hlo : lo ≤ W.heap.size)
    (h : ∀ g' cap w', PaySl w' lo (.slice (some ⟨g', 0, none⟩) (ls.length + 1) cap) (ls ++ [p]) → W.grownBy w' v.ownBlock → K (a.put o.dst (.slice (some ⟨g', 0, none⟩) (ls.length + 1) cap)) w') :
    if Region.wanted o (yielded ops a.tmps) = true then Oper.wp Tryd.prog o a W K Q else E := by
  obtain ⟨i0, hi, hz0, hz1, hz2⟩ := info_parts infoPay
  refine step_append_lies W hgd s x 55 ho lo 65 i0 _ 3 24 Tryd.underlying55 hi hz0 hz1 hz2 rfl (by decide) v ls.length (payCells ls) hs hown ⟨g, 0, none⟩ 1 1 [.int .i64 p.frm, .int .i64 p.tow, .int .i64 p.sum] hx rfl
    (World.news_of_block (cs := #[.int .i64 p.frm, .int .i64 p.tow, .int .i64 p.sum]) hg) (by simp [Value.oneCell']) (by decide) (by unfold maxLen; omega) (by omega) hlo _ rfl ?_
  intro g' cap w' h1 h2 _ _
  refine h g' cap w' ?_ h2
  unfold PaySl
  rw [List.length_append, payCells_snoc]
  exact h1

/-- Append of one payment, in a plain region. -/
theorem wpList_push_pay {W : World} {ops : Array Oper} {rest : List Oper} {o : Oper} {a : Act} {Q : Exit → Act → World → Prop} (hgd : o.guard = none) (s x : Operand)
    (ho : o.op = .call { callee := .builtin .append, args := #[s, x], argTypes := #[55, 55] }) (lo : Nat) (v : Value) (ls : List Pay) (hs : a.eval s = v) (hown : PaySl W lo v ls) (g : Nat) (p : Pay)
    (hx : a.eval x = .slice (some ⟨g, 0, none⟩) 1 1) (hg : W.heap[g]? = some (.cells #[.int .i64 p.frm, .int .i64 p.tow, .int .i64 p.sum] 65 (0, 0))) (hn : ls.length ≤ 1048576) (hlo : lo ≤ W.heap.size)
    (h : ∀ g' cap w', PaySl w' lo (.slice (some ⟨g', 0, none⟩) (ls.length + 1) cap) (ls ++ [p]) → W.grownBy w' v.ownBlock → wpList Tryd.prog ops Q rest (a.put o.dst (.slice (some ⟨g', 0, none⟩) (ls.length + 1) cap)) w') :
    wpList Tryd.prog ops Q (o :: rest) a W := by
  obtain ⟨i0, hi, hz0, hz1, hz2⟩ := info_parts infoPay
  refine wpList_append_lies W hgd s x 55 ho lo 65 i0 _ 3 24 Tryd.underlying55 hi hz0 hz1 hz2 rfl (by decide) v ls.length (payCells ls) hs hown ⟨g, 0, none⟩ 1 1 [.int .i64 p.frm, .int .i64 p.tow, .int .i64 p.sum] hx rfl
    (World.news_of_block (cs := #[.int .i64 p.frm, .int .i64 p.tow, .int .i64 p.sum]) hg) (by simp [Value.oneCell']) (by decide) (by unfold maxLen; omega) (by omega) hlo _ rfl ?_
  intro g' cap w' h1 h2 _ _
  refine h g' cap w' ?_ h2
  unfold PaySl
  rw [List.length_append, payCells_snoc]
  exact h1

def seqPays (k0 : Int) (n : Nat) : List Pay := (List.range n).map (fun (i : Nat) => ⟨k0 + 3 * (i : Int), k0 + 3 * (i : Int) + 1, k0 + 3 * (i : Int) + 1 + 1⟩)
theorem seqPays_len (k0 : Int) (n : Nat) : (seqPays k0 n).length = n := by simp [seqPays]
theorem seqPays_at {k0 : Int} {n i : Nat} (h : i < n) : (seqPays k0 n)[i]? = some ⟨k0 + 3 * (i : Int), k0 + 3 * (i : Int) + 1, k0 + 3 * (i : Int) + 1 + 1⟩ := by simp [seqPays, h]
theorem eq_seqPays {k0 : Int} {ys : List Pay} {n : Nat} (hn : ys.length = n) (h : ∀ i, i < n → ys[i]? = some ⟨k0 + 3 * (i : Int), k0 + 3 * (i : Int) + 1, k0 + 3 * (i : Int) + 1 + 1⟩) : ys = seqPays k0 n := by
  apply List.ext_getElem?
  intro i
  by_cases hi : i < n
  · rw [h i hi, seqPays_at hi]
  · rw [List.getElem?_eq_none (by omega), List.getElem?_eq_none (by rw [seqPays_len]; omega)]

end Go.Proofs.YtgagfaajilbmmaaDoor
