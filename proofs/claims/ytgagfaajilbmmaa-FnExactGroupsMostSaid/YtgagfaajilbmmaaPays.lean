/- Lists of payments: contracts of the helpers that copy, compare, measure, mark and ask them; their reading among a row's arguments; slices that a call owns.
   Conditions: lists have at most 1048576 elements. -/
import Derived.Test.YtgagfaajilbmmaaMarks2
namespace Go.Proofs.Ytgagfaajilbmmaa
open Go.RowKit Go.ChangeShapes Go.WideShapes Go.ChangeAt Go.Deep

structure Pay where
  frm : Int
  tow : Int
  sum : Int

def PaysAt (w : World) (A : Option Addr) (ls : List Pay) : Prop :=
  ∀ i p, ls[i]? = some p → ∃ b off, A = some ⟨b, off, none⟩ ∧ b < w.heap.size ∧ w.cell? ⟨b, off + i * 3, none⟩ = some (.int .i64 p.frm) ∧ w.cell? ⟨b, off + i * 3 + 1, none⟩ = some (.int .i64 p.tow) ∧ w.cell? ⟨b, off + i * 3 + 2, none⟩ = some (.int .i64 p.sum)

theorem PaysAt.below {w w' : World} {A : Option Addr} {ls : List Pay} (h : PaysAt w A ls) (hb : Below w.heap.size w w') : PaysAt w' A ls := by
  intro i p hp
  obtain ⟨b, off, e, hlt, h1, h2, h3⟩ := h i p hp
  exact ⟨b, off, e, Nat.lt_of_lt_of_le hlt hb.size, (hb.cell hlt).trans h1, (hb.cell hlt).trans h2, (hb.cell hlt).trans h3⟩

def payCell (ls : List Pay) (j : Nat) : Value :=
  match ls[j / 3]? with
  | some p => if j % 3 = 0 then .int .i64 p.frm else if j % 3 = 1 then .int .i64 p.tow else .int .i64 p.sum
  | none => .int .i64 0

theorem payCell_0 {ls : List Pay} {i : Nat} {p : Pay} (h : ls[i]? = some p) : payCell ls (i * 3) = .int .i64 p.frm := by
  unfold payCell; rw [show i * 3 / 3 = i from by omega, h]; simp
theorem payCell_1 {ls : List Pay} {i : Nat} {p : Pay} (h : ls[i]? = some p) : payCell ls (i * 3 + 1) = .int .i64 p.tow := by
  unfold payCell; rw [show (i * 3 + 1) / 3 = i from by omega, h]; simp
theorem payCell_2 {ls : List Pay} {i : Nat} {p : Pay} (h : ls[i]? = some p) : payCell ls (i * 3 + 2) = .int .i64 p.sum := by
  unfold payCell; rw [show (i * 3 + 2) / 3 = i from by omega, h]; simp

theorem made3i (n : Nat) (i : Nat) (hi : i < n * 3) : (madeCells #[.int .i64 0, .int .i64 0, .int .i64 0] (n * 3))[i]? = some (.int .i64 0) := by
  have : i % 3 = 0 ∨ i % 3 = 1 ∨ i % 3 = 2 := by omega
  rcases this with h | h | h <;> simp [madeCells, hi, h]

instance : Inhabited Pay := ⟨⟨0, 0, 0⟩⟩

section
variable {H : Type} {enc : TypeId × Value → H} {w : World} {base : Nat} {spare : Nat → Bool} {held : Bool}

theorem three_ints {e : TypeId} {fs : Array Field} {fuel : Nat} {cs : List Value} {x : DataW H × List MemPlace} (he : Try.prog.underlying e = some (.struct fs))
    (hs : (fs.map fun f => (f.type, f.offset)) = #[(3, 0), (3, 1), (3, 2)]) (h : DataW.trod enc Try.prog w base spare held fuel e cs = some x) :
    ∃ a b d, cs[0]? = some (.int .i64 a) ∧ cs[1]? = some (.int .i64 b) ∧ cs[2]? = some (.int .i64 d) := by
  obtain ⟨xs, n, _, _, _, hlen, hf⟩ := DataW.trod_struct he h
  have g : ∀ (j : Nat) (o : Nat), (fs.map fun f => (f.type, f.offset))[j]? = some (3, o) → ∃ a, cs[o]? = some (.int .i64 a) := by
    intro j o hj
    simp only [Array.getElem?_map, Option.map_eq_some_iff, Prod.mk.injEq] at hj
    obtain ⟨f, hfj, ht, ho⟩ := hj
    have h1 := hf j f hfj
    rw [ht, ho, show Try.prog.cellsOf 3 = 1 from by kernel_rfl] at h1
    have hj2 : j < xs.length := by rw [hlen]; exact (Array.getElem?_eq_some_iff.1 hfj).1
    rw [List.getElem?_eq_getElem hj2] at h1
    obtain ⟨a, ha, _⟩ := DataW.trod_int Try.underlying3 h1
    refine ⟨a, ?_⟩
    have : ((cs.drop o).take 1)[0]? = some (.int .i64 a) := by rw [ha]; rfl
    simpa [List.getElem?_take, List.getElem?_drop] using this
  obtain ⟨a, ha⟩ := g 0 0 (by rw [hs]; rfl)
  obtain ⟨b, hb⟩ := g 1 1 (by rw [hs]; rfl)
  obtain ⟨d, hd⟩ := g 2 2 (by rw [hs]; rfl)
  exact ⟨a, b, d, ha, hb, hd⟩

end

def payCells (ls : List Pay) : List Value := ls.flatMap (fun p => [.int .i64 p.frm, .int .i64 p.tow, .int .i64 p.sum])
theorem payCells_cons (q : Pay) (r : List Pay) : payCells (q :: r) = .int .i64 q.frm :: .int .i64 q.tow :: .int .i64 q.sum :: payCells r := by simp [payCells]
theorem payCells_at : ∀ {ls : List Pay} {i : Nat} {p : Pay}, ls[i]? = some p → (payCells ls)[i * 3]? = some (.int .i64 p.frm) ∧ (payCells ls)[i * 3 + 1]? = some (.int .i64 p.tow) ∧ (payCells ls)[i * 3 + 2]? = some (.int .i64 p.sum)
  | [], i, p, h => by simp at h
  | q :: r, 0, p, h => by
    obtain rfl : q = p := by simpa using h
    exact ⟨rfl, rfl, rfl⟩
  | q :: r, i + 1, p, h => by
    have := payCells_at (ls := r) (i := i) (p := p) (by simpa using h)
    rw [show (i + 1) * 3 = i * 3 + 1 + 1 + 1 from by omega, payCells_cons]
    exact this
theorem payCells_len (ls : List Pay) : (payCells ls).length = ls.length * 3 := by
  induction ls with
  | nil => rfl
  | cons q r ih => rw [payCells_cons]; simp only [List.length_cons, ih]; omega
theorem payCells_snoc (ls : List Pay) (p : Pay) : payCells (ls ++ [p]) = payCells ls ++ [.int .i64 p.frm, .int .i64 p.tow, .int .i64 p.sum] := by simp [payCells]
theorem payCells_app (ls ms : List Pay) : payCells (ls ++ ms) = payCells ls ++ payCells ms := by simp [payCells]
theorem payCells_set (a b d : Int) : ∀ (ls : List Pay) (i : Nat), i < ls.length → (((payCells ls).set (i * 3) (.int .i64 a)).set (i * 3 + 1) (.int .i64 b)).set (i * 3 + 2) (.int .i64 d) = payCells (ls.set i ⟨a, b, d⟩)
  | [], i, h => by simp at h
  | q :: r, 0, _ => by rw [List.set_cons_zero, payCells_cons, payCells_cons]; rfl
  | q :: r, i + 1, h => by
    have ih := payCells_set a b d r i (by simpa using h)
    rw [List.set_cons_succ, payCells_cons, payCells_cons, ← ih, show (i + 1) * 3 = i * 3 + 1 + 1 + 1 from by omega]
    rfl
theorem payCells_cell {ls : List Pay} {j : Nat} (h : j < ls.length * 3) : (payCells ls)[j]? = some (payCell ls j) := by
  have hi : j / 3 < ls.length := by omega
  have hx := List.getElem?_eq_getElem hi
  have hc := payCells_at hx
  rcases (by omega : j = j / 3 * 3 ∨ j = j / 3 * 3 + 1 ∨ j = j / 3 * 3 + 2) with e | e | e
  · rw [e, hc.1, payCell_0 hx]
  · rw [e, hc.2.1, payCell_1 hx]
  · rw [e, hc.2.2, payCell_2 hx]

def seqPays (k0 : Int) (n : Nat) : List Pay := (List.range n).map (fun (i : Nat) => ⟨k0 + 3 * (i : Int), k0 + 3 * (i : Int) + 1, k0 + 3 * (i : Int) + 1 + 1⟩)
theorem seqPays_len (k0 : Int) (n : Nat) : (seqPays k0 n).length = n := by simp [seqPays]
theorem seqPays_at {k0 : Int} {n i : Nat} (h : i < n) : (seqPays k0 n)[i]? = some ⟨k0 + 3 * (i : Int), k0 + 3 * (i : Int) + 1, k0 + 3 * (i : Int) + 1 + 1⟩ := by simp [seqPays, h]
theorem eq_seqPays {k0 : Int} {ys : List Pay} {n : Nat} (hn : ys.length = n) (h : ∀ i, i < n → ys[i]? = some ⟨k0 + 3 * (i : Int), k0 + 3 * (i : Int) + 1, k0 + 3 * (i : Int) + 1 + 1⟩) : ys = seqPays k0 n := by
  apply List.ext_getElem?
  intro i
  by_cases hi : i < n
  · rw [h i hi, seqPays_at hi]
  · rw [List.getElem?_eq_none (by omega), List.getElem?_eq_none (by rw [seqPays_len]; omega)]

end Go.Proofs.Ytgagfaajilbmmaa
