/- Lists of dishes: contracts of the helpers that copy, compare, measure, mark and ask them; their reading among a row's arguments; slices that a call owns. (Written by tools/pairs.py.)
   Conditions: lists have at most 1048576 elements. -/
import Derived.Test.YteloapholoechabMarks2
namespace Go.Proofs.Yteloapholoechab
open Go.RowKit Go.ChangeShapes Go.WideShapes Go.ChangeAt Go.Deep

structure Dish where
  prep : Int
  cook : Int

def DishesAt (w : World) (A : Option Addr) (ls : List Dish) : Prop :=
  ∀ i p, ls[i]? = some p → ∃ b off, A = some ⟨b, off, none⟩ ∧ b < w.heap.size ∧ w.cell? ⟨b, off + i * 2, none⟩ = some (.int .i64 p.prep) ∧ w.cell? ⟨b, off + i * 2 + 1, none⟩ = some (.int .i64 p.cook)

theorem DishesAt.below {w w' : World} {A : Option Addr} {ls : List Dish} (h : DishesAt w A ls) (hb : Below w.heap.size w w') : DishesAt w' A ls := by
  intro i p hp
  obtain ⟨b, off, e, hlt, h1, h2⟩ := h i p hp
  exact ⟨b, off, e, Nat.lt_of_lt_of_le hlt hb.size, (hb.cell hlt).trans h1, (hb.cell hlt).trans h2⟩


def dishCell (ls : List Dish) (j : Nat) : Value :=
  match ls[j / 2]? with
  | some p => if j % 2 = 0 then .int .i64 p.prep else .int .i64 p.cook
  | none => .int .i64 0

theorem dishCell_even {ls : List Dish} {i : Nat} {p : Dish} (h : ls[i]? = some p) : dishCell ls (i * 2) = .int .i64 p.prep := by
  unfold dishCell; rw [show i * 2 / 2 = i from by omega, h]; simp
theorem dishCell_odd {ls : List Dish} {i : Nat} {p : Dish} (h : ls[i]? = some p) : dishCell ls (i * 2 + 1) = .int .i64 p.cook := by
  unfold dishCell; rw [show (i * 2 + 1) / 2 = i from by omega, h]; simp

/-- Block g is the call's own row of the dishes. -/
def OwnDishes (w : World) (g : Nat) (ls : List Dish) : Prop := w.rowIs g 46 (ls.length * 2) (dishCell ls)

theorem OwnDishes.at_ {w : World} {g : Nat} {ls : List Dish} (h : OwnDishes w g ls) : DishesAt w (some ⟨g, 0, none⟩) ls := by
  intro i p hp
  have hi : i < ls.length := (List.getElem?_eq_some_iff.1 hp).1
  refine ⟨g, 0, rfl, h.lt, ?_, ?_⟩
  · rw [← dishCell_even hp, Nat.zero_add]; exact h.cell (by omega)
  · rw [← dishCell_odd hp, Nat.zero_add]; exact h.cell (by omega)

set_option maxHeartbeats 400000 in
theorem toDish_any (a b : Int) (w : World) :
    Calls Try.prog 31 #[.agg #[.int .i64 a, .int .i64 b]] w fun e w' => e = .returned (.agg #[.int .i64 a, .int .i64 b]) ∧ Below w.heap.size w w' := by
  go_enter Try.func31, Try.ntmps31
  go_wp2_with fail
  exact bodyPost_ret (v := .agg #[.int .i64 a, .int .i64 b]) (by simp [results, Try.results31, go_sem]) rfl ⟨rfl, by go_grown⟩

theorem infoDish : (Try.prog.info? 46).map (fun i => (i.zero, i.size, i.bytes)) = some (some (.agg #[.int .i64 0, .int .i64 0]), 2, 16) := by kernel_rfl

theorem make_dishes (n : Nat) (hn : n ≤ 1048576) (w : World) :
    (Instr.makeSlice 26 (.int .i64 (n : Int)) (.int .i64 (n : Int))).run Try.prog w = .ok (.slice (some ⟨w.heap.size, 0, none⟩) n n) (w.alloc (.cells (madeCells #[.int .i64 0, .int .i64 0] (n * 2)) 46)) := by
  obtain ⟨i0, hi, hz0, hz1, hz2⟩ := info_parts infoDish
  have := run_make (P := Try.prog) w 26 46 i0 _ Try.underlying26 hi hz0 .i64 .i64 n n (by omega) (by omega) (by rw [hz2]; omega) (by omega)
  simpa [hz1, Value.cells] using this

set_option maxHeartbeats 400000 in
theorem toDishS_any (A : Option Addr) (c : Nat) (ls : List Dish) (w : World) (h1 : DishesAt w A ls) (hl : ls.length ≤ 1048576) :
    Calls Try.prog 10 #[.slice A ls.length c] w fun e w' => e = .returned (.slice (some ⟨w.heap.size, 0, none⟩) ls.length ls.length) ∧ OwnDishes w' w.heap.size ls ∧ Below w.heap.size w w' := by
  have hmk := make_dishes ls.length hl
  go_enter Try.func10, Try.ntmps10
  go_wp2_with fail
  clear hmk
  go_loopw [4] (fun i wr => ∃ k : Nat, k ≤ ls.length ∧ i = .int .i64 k ∧ wr.rowIs w.heap.size 46 (ls.length * 2) (fun j => if j < k * 2 then dishCell ls j else .int .i64 0) ∧ Below w.heap.size w wr) (fun i _ => ls.length - (intOf i).toNat)
  case atStart => exact ⟨0, Nat.zero_le _, rfl, ⟨_, Deep.blk_alloc_new _ _, size_madeCells _ _, fun i hi => by rw [made2 _ _ hi]; simp⟩, by go_grown⟩
  case round =>
    obtain ⟨k, hk, rfl, hrow, hb⟩ := hrel
    have hsz := hb.size
    by_cases hlt : k < ls.length
    · obtain ⟨b, off, rfl, hbl, hc1, hc2⟩ := (h1.below hb) k ls[k] (List.getElem?_eq_getElem hlt)
      have HP : Hid (ls[k]? = some ls[k]) := hide (List.getElem?_eq_getElem hlt)
      generalize ls[k] = p at *
      have hz : (0 : Int) ≤ k := by omega
      have hz2 : (k : Int) < ls.length := by omega
      go_wp2_with fail
      refine (toDish_any _ _ _).mono ?_
      rintro e w' ⟨rfl, hB⟩
      have hrow2 := hrow.of_block (hB.block _ hrow.lt)
      have hq1 := hrow2.cell (i := k * 2) (by omega)
      have hq2 := hrow2.cell (i := k * 2 + 1) (by omega)
      have hf := hrow2.frozen
      have hb2 : Below w.heap.size w w' := next hb hB
      have hsz2 := hb2.size
      go_wp2_with fail
      go_roundw
      case rel =>
        refine ⟨k + 1, hlt, by go_num, ((hrow2.set (k * 2) _).set (k * 2 + 1) _).congr (fun j hj => ?_), by go_grown⟩
        rcases Nat.lt_trichotomy j (k * 2) with h | h | h
        · rw [if_neg (by omega), if_neg (by omega), if_pos h, if_pos (by omega)]
        · subst h
          rw [if_neg (by omega), if_pos rfl, if_pos (by omega), dishCell_even HP.out]
        · by_cases h' : j = k * 2 + 1
          · subst h'
            rw [if_pos rfl, if_pos (by omega), dishCell_odd HP.out]
          · rw [if_neg h', if_neg (by omega), if_neg (by omega), if_neg (by omega)]
      case measure => simp [intOf]; omega
    · go_wp2_with fail
      go_ret
      exact ⟨rfl, hrow.congr (fun i hi => if_pos (by omega)), by go_grown⟩
set_option maxHeartbeats 400000 in
theorem eqDish_same (p : Dish) (w : World) :
    Calls Try.prog 36 #[.agg #[.int .i64 p.prep, .int .i64 p.cook], .agg #[.int .i64 p.prep, .int .i64 p.cook]] w fun e w' => e = .returned (.bool true) ∧ Below w.heap.size w w' := by
  generalize p.prep = a
  generalize p.cook = b
  have ha : (a != a) = false := by simp
  have hb : (b != b) = false := by simp
  go_enter Try.func36, Try.ntmps36
  go_wp2_with fail
  go_ret
  exact ⟨rfl, by go_grown⟩

set_option maxHeartbeats 400000 in
theorem eqDishS_same (A A' : Option Addr) (c c' : Nat) (ls : List Dish) (w : World) (h1 : DishesAt w A ls) (h2 : DishesAt w A' ls) (hl : ls.length ≤ 1048576) :
    Calls Try.prog 13 #[.slice A ls.length c, .slice A' ls.length c'] w fun e w' => e = .returned (.bool true) ∧ Below w.heap.size w w' := by
  have he : ((ls.length : Int) != ls.length) = false := by simp
  go_enter Try.func13, Try.ntmps13
  go_wp2_with fail
  go_loopw [5] (fun i wr => ∃ k : Nat, k ≤ ls.length ∧ i = .int .i64 k ∧ Below w.heap.size w wr) (fun i _ => ls.length - (intOf i).toNat)
  case atStart => exact ⟨0, Nat.zero_le _, rfl, Below.refl _ _⟩
  case round =>
    obtain ⟨k, hk, rfl, hb⟩ := hrel
    have hsz := hb.size
    by_cases hlt : k < ls.length
    · obtain ⟨b, off, rfl, hbl, hc1, hc2⟩ := h1 k ls[k] (List.getElem?_eq_getElem hlt)
      obtain ⟨b', off', rfl, hbl', hc1', hc2'⟩ := h2 k ls[k] (List.getElem?_eq_getElem hlt)
      rw [← hb.cell hbl] at hc1 hc2
      rw [← hb.cell hbl'] at hc1' hc2'
      generalize ls[k] = p at *
      have hz : (0 : Int) ≤ k := by omega
      have hz2 : (k : Int) < ls.length := by omega
      go_wp2_with fail
      go_region_held3 (fun W => W.cell? ⟨b, off + k * 2, none⟩ = some (.int .i64 p.prep) ∧ W.cell? ⟨b, off + k * 2 + 1, none⟩ = some (.int .i64 p.cook) ∧ W.cell? ⟨b', off' + k * 2, none⟩ = some (.int .i64 p.prep) ∧ W.cell? ⟨b', off' + k * 2 + 1, none⟩ = some (.int .i64 p.cook) ∧ Below w.heap.size w W)
        (first | exact ⟨hc1, hc2, hc1', hc2', hb.drew⟩ | exact ⟨(hB.cell (Nat.lt_of_lt_of_le hbl hsz)).trans hc1, (hB.cell (Nat.lt_of_lt_of_le hbl hsz)).trans hc2, (hB.cell (Nat.lt_of_lt_of_le hbl' hsz)).trans hc1', (hB.cell (Nat.lt_of_lt_of_le hbl' hsz)).trans hc2', hb.drew.trans (hB.mono hsz)⟩)
        (first | (go_at_call 36; refine (eqDish_same _ _).mono ?_; rintro e W' ⟨rfl, hB⟩))
      have hb2 : Below w.heap.size w W' := hb.drew.trans (hB.mono hsz)
      have hsz2 := hb2.size
      go_wp2_with fail
      go_roundw
      case rel => exact ⟨k + 1, hlt, by go_num, by go_grown⟩
      case measure => simp [intOf]; omega
    · go_wp2_with fail
      go_ret
      exact ⟨rfl, by go_grown⟩

theorem OwnDishes.below {w w' : World} {g : Nat} {ls : List Dish} (h : OwnDishes w g ls) (hb : Below w.heap.size w w') : OwnDishes w' g ls := World.rowIs.of_block h (hb.block _ (World.rowIs.lt h))

set_option maxHeartbeats 400000 in
theorem szDishS_any (A : Option Addr) (c n : Nat) (left : Int) (w : World) (h0 : 0 ≤ left) (h1 : left ≤ 1048576) (hl : n ≤ 9223372036854775807) :
    Calls Try.prog 8 #[.slice A n c, .int .i64 left] w fun e w' => e = .returned (.int .i64 (szP left n)) ∧ w = w' := by
  unfold szP
  by_cases h : left - n < 0
  · rw [if_pos h]
    go_enter Try.func8, Try.ntmps8
    go_wp2_with fail
    go_ret
    exact ⟨rfl, rfl⟩
  · rw [if_neg h]
    go_enter Try.func8, Try.ntmps8
    go_wp2_with fail
    go_ret
    exact ⟨rfl, rfl⟩

theorem szDishS_b (A : Option Addr) (c n : Nat) (left : Int) (w : World) (h0 : 0 ≤ left) (h1 : left ≤ 1048576) (hl : n ≤ 9223372036854775807) :
    Calls Try.prog 8 #[.slice A n c, .int .i64 left] w fun e w' => e = .returned (.int .i64 (szP left n)) ∧ Below w.heap.size w w' :=
  (szDishS_any A c n left w h0 h1 hl).mono fun e w' ⟨he, hw⟩ => ⟨he, by subst hw; exact Below.refl _ _⟩

instance : Inhabited Dish := ⟨⟨0, 0⟩⟩

section
variable {H : Type} {enc : TypeId × Value → H} {w : World} {base : Nat} {spare : Nat → Bool} {held : Bool}

theorem open_dishes {fuel : Nat} {cs : List Value} {x : DataW H × List MemPlace} (h : DataW.trod enc Try.prog w base spare held fuel 22 cs = some x) :
    ∃ A c ls, cs = [.slice A ls.length c] ∧ DishesAt w A ls ∧ ls.length ≤ 9223372036854775807 := by
  rcases open_slice Try.underlying22 h with ⟨rfl, _⟩ | ⟨a, len, cap, m, n, D, Pl, rfl, _, hl, hm, hmm, _, hi⟩
  · exact ⟨none, 0, [], rfl, fun i p hp => by simp at hp, by simp⟩
  · have hlm : len ≤ m := by rw [hmm]; split <;> omega
    have hcells : Try.prog.cellsOf 48 = 2 := by kernel_rfl
    rw [hcells] at hi
    obtain ⟨f, hf⟩ := choose_lt (α := Dish) (n := len) (p := fun i p => w.cell? (a.add (i * 2)) = some (.int .i64 p.prep) ∧ w.cell? (a.add (i * 2 + 1)) = some (.int .i64 p.cook)) (fun i hil => by
      obtain ⟨cs', hc, ht⟩ := hi i (by omega)
      obtain ⟨_, _, hat⟩ := World.cells?_some hc
      obtain ⟨u, v, h0, h1⟩ := two_cells Try.underlying48 (by simp) ht
      have e0 := hat 0 (by omega)
      have e1 := hat 1 (by omega)
      rw [Go.Deep.add_add, h0] at e0
      rw [Go.Deep.add_add, h1] at e1
      exact ⟨⟨u, v⟩, e0, e1⟩)
    refine ⟨some a, cap, (List.range len).map f, by simp, fun i p hp => ?_, by simp only [List.length_map, List.length_range]; unfold maxLen at hm; omega⟩
    have hil : i < len := by have := (List.getElem?_eq_some_iff.1 hp).1; simpa using this
    have hpe : f i = p := by simpa [hil] using hp
    obtain ⟨g0, g1⟩ := hf i hil
    rw [hpe] at g0 g1
    obtain ⟨b, off, rfl, hadd⟩ := addr_of (hf 0 (by omega)).1
    rw [hadd] at g0 g1
    exact ⟨b, off, rfl, (cell_lt g0).1, g0, by rw [Nat.add_assoc]; exact g1⟩

end

def dishCells (ls : List Dish) : List Value := ls.flatMap (fun p => [.int .i64 p.prep, .int .i64 p.cook])
theorem dishCells_cons (q : Dish) (r : List Dish) : dishCells (q :: r) = .int .i64 q.prep :: .int .i64 q.cook :: dishCells r := by simp [dishCells]
theorem dishCells_at : ∀ {ls : List Dish} {i : Nat} {p : Dish}, ls[i]? = some p → (dishCells ls)[i * 2]? = some (.int .i64 p.prep) ∧ (dishCells ls)[i * 2 + 1]? = some (.int .i64 p.cook)
  | [], i, p, h => by simp at h
  | q :: r, 0, p, h => by
    obtain rfl : q = p := by simpa using h
    exact ⟨rfl, rfl⟩
  | q :: r, i + 1, p, h => by
    have := dishCells_at (ls := r) (i := i) (p := p) (by simpa using h)
    rw [show (i + 1) * 2 = i * 2 + 1 + 1 from by omega, dishCells_cons]
    exact this
theorem dishCells_len (ls : List Dish) : (dishCells ls).length = ls.length * 2 := by
  induction ls with
  | nil => rfl
  | cons q r ih => rw [dishCells_cons]; simp only [List.length_cons, ih]; omega
theorem dishCells_snoc (ls : List Dish) (p : Dish) : dishCells (ls ++ [p]) = dishCells ls ++ [.int .i64 p.prep, .int .i64 p.cook] := by simp [dishCells]
theorem dishCells_set (a b : Int) : ∀ (ls : List Dish) (i : Nat), i < ls.length → ((dishCells ls).set (i * 2) (.int .i64 a)).set (i * 2 + 1) (.int .i64 b) = dishCells (ls.set i ⟨a, b⟩)
  | [], i, h => by simp at h
  | q :: r, 0, _ => by rw [List.set_cons_zero, dishCells_cons, dishCells_cons]; rfl
  | q :: r, i + 1, h => by
    have ih := dishCells_set a b r i (by simpa using h)
    rw [List.set_cons_succ, dishCells_cons, dishCells_cons, ← ih, show (i + 1) * 2 = i * 2 + 1 + 1 from by omega]
    rfl
theorem dishCells_cell {ls : List Dish} {j : Nat} (h : j < ls.length * 2) : (dishCells ls)[j]? = some (dishCell ls j) := by
  have hi : j / 2 < ls.length := by omega
  have hx := List.getElem?_eq_getElem hi
  have hc := dishCells_at hx
  rcases (by omega : j = j / 2 * 2 ∨ j = j / 2 * 2 + 1) with e | e
  · rw [e, hc.1, dishCell_even hx]
  · rw [e, hc.2, dishCell_odd hx]

/-- The slice value v owns, from block lo on, the dishes. -/
def DishSl (w : World) (lo : Nat) (v : Value) (ls : List Dish) : Prop := w.ownsRow lo 46 2 v ls.length (dishCells ls)

theorem DishSl.form {w : World} {lo : Nat} {v : Value} {ls : List Dish} (h : DishSl w lo v ls) : ∃ A c, v = .slice A ls.length c ∧ DishesAt w A ls := by
  have hlt := h.lt
  rcases h.2 with ⟨hv, hn⟩ | ⟨g, cap, cur, hv, _⟩
  · have : ls = [] := List.eq_nil_of_length_eq_zero hn
    subst this
    exact ⟨none, 0, hv, fun i x hx => by simp at hx⟩
  · refine ⟨some ⟨g, 0, none⟩, cap, hv, fun i p hp => ?_⟩
    subst hv
    have hi : i < ls.length := (List.getElem?_eq_some_iff.1 hp).1
    have hc := dishCells_at hp
    refine ⟨g, 0, rfl, (hlt g rfl).2, ?_, ?_⟩
    · rw [Nat.zero_add, World.ownsRow.cellAt h (i * 2) (by omega)]; exact hc.1
    · rw [Nat.zero_add, World.ownsRow.cellAt h (i * 2 + 1) (by omega)]; exact hc.2

theorem DishSl.dishes {w : World} {lo n c : Nat} {A : Option Addr} {ls : List Dish} (h : DishSl w lo (.slice A n c) ls) : DishesAt w A ls := by
  obtain ⟨A', c', e, hI⟩ := h.form
  injection e with e
  rw [e]
  exact hI

theorem OwnDishes.sl {w : World} {lo g : Nat} {ls : List Dish} (h : OwnDishes w g ls) (hlo : lo ≤ g) (hn : ls.length ≤ 1048576) : DishSl w lo (.slice (some ⟨g, 0, none⟩) ls.length ls.length) ls :=
  ownsRow_of_row (size := 2) (n := ls.length) h hlo (by unfold maxLen; omega) (dishCells_len ls) (fun i hi => dishCells_cell hi)

theorem DishSl.below {w w' : World} {lo : Nat} {v : Value} {ls : List Dish} (h : DishSl w lo v ls) (hb : Below w.heap.size w w') : DishSl w' lo v ls := ownsRow_below h hb
theorem DishSl.row {w w' : World} {lo : Nat} {v : Value} {ls : List Dish} {q : Option Nat} (h : DishSl w lo v ls) (hg : w.grownBy w' q) (hne : v.ownBlock = none ∨ v.ownBlock ≠ q) : DishSl w' lo v ls := World.ownsRow.kept h hg hne

theorem DishSl.store2 {w : World} {lo g n cap : Nat} {ls : List Dish} (h : DishSl w lo (.slice (some ⟨g, 0, none⟩) n cap) ls) (i : Nat) (hi : i < ls.length) (a b : Int) :
    DishSl ((w.setCell ⟨g, i * 2, none⟩ (.int .i64 a)).setCell ⟨g, i * 2 + 1, none⟩ (.int .i64 b)) lo (.slice (some ⟨g, 0, none⟩) n cap) (ls.set i ⟨a, b⟩) := by
  obtain ⟨A, c, e, _⟩ := h.form
  injection e with e1 e2 e3
  subst e2
  have := (World.ownsRow.stored (World.ownsRow.stored h (i * 2) (.int .i64 a)).1 (i * 2 + 1) (.int .i64 b)).1
  unfold DishSl
  rw [← dishCells_set a b ls i hi, List.length_set]
  exact this

/-- Append of one dish, at a step of a region that draws its order. -/
theorem step_push_dish {W : World} {ops : Array Oper} {o : Oper} {a : Act} {K : Act → World → Prop} {Q : Exit → Act → World → Prop} {E : Prop} (hgd : o.guard = none) (s x : Operand)
    (ho : o.op = .call { callee := .builtin .append, args := #[s, x], argTypes := #[26, 26] }) (lo : Nat) (v : Value) (ls : List Dish) (hs : a.eval s = v) (hown : DishSl W lo v ls) (g : Nat) (p : Dish)
    (hx : a.eval x = .slice (some ⟨g, 0, none⟩) 1 1) (hg : W.heap[g]? = some (.cells #[.int .i64 p.prep, .int .i64 p.cook] 46 (0, 0))) (hn : ls.length ≤ 1048576) (hlo : lo ≤ W.heap.size)
    (h : ∀ g' cap w', DishSl w' lo (.slice (some ⟨g', 0, none⟩) (ls.length + 1) cap) (ls ++ [p]) → W.grownBy w' v.ownBlock → K (a.put o.dst (.slice (some ⟨g', 0, none⟩) (ls.length + 1) cap)) w') :
    if Region.wanted o (yielded ops a.tmps) = true then Oper.wp Try.prog o a W K Q else E := by
  obtain ⟨i0, hi, hz0, hz1, hz2⟩ := info_parts infoDish
  refine step_append_lies W hgd s x 26 ho lo 46 i0 _ 2 16 Try.underlying26 hi hz0 hz1 hz2 rfl (by decide) v ls.length (dishCells ls) hs hown ⟨g, 0, none⟩ 1 1 [.int .i64 p.prep, .int .i64 p.cook] hx rfl
    (World.news_of_block (cs := #[.int .i64 p.prep, .int .i64 p.cook]) hg) (by simp [Value.oneCell']) (by decide) (by unfold maxLen; omega) (by omega) hlo _ rfl ?_
  intro g' cap w' h1 h2 _ _
  refine h g' cap w' ?_ h2
  unfold DishSl
  rw [List.length_append, dishCells_snoc]
  exact h1

/-- Append of one dish, in a plain region. -/
theorem wpList_push_dish {W : World} {ops : Array Oper} {rest : List Oper} {o : Oper} {a : Act} {Q : Exit → Act → World → Prop} (hgd : o.guard = none) (s x : Operand)
    (ho : o.op = .call { callee := .builtin .append, args := #[s, x], argTypes := #[26, 26] }) (lo : Nat) (v : Value) (ls : List Dish) (hs : a.eval s = v) (hown : DishSl W lo v ls) (g : Nat) (p : Dish)
    (hx : a.eval x = .slice (some ⟨g, 0, none⟩) 1 1) (hg : W.heap[g]? = some (.cells #[.int .i64 p.prep, .int .i64 p.cook] 46 (0, 0))) (hn : ls.length ≤ 1048576) (hlo : lo ≤ W.heap.size)
    (h : ∀ g' cap w', DishSl w' lo (.slice (some ⟨g', 0, none⟩) (ls.length + 1) cap) (ls ++ [p]) → W.grownBy w' v.ownBlock → wpList Try.prog ops Q rest (a.put o.dst (.slice (some ⟨g', 0, none⟩) (ls.length + 1) cap)) w') :
    wpList Try.prog ops Q (o :: rest) a W := by
  obtain ⟨i0, hi, hz0, hz1, hz2⟩ := info_parts infoDish
  refine wpList_append_lies W hgd s x 26 ho lo 46 i0 _ 2 16 Try.underlying26 hi hz0 hz1 hz2 rfl (by decide) v ls.length (dishCells ls) hs hown ⟨g, 0, none⟩ 1 1 [.int .i64 p.prep, .int .i64 p.cook] hx rfl
    (World.news_of_block (cs := #[.int .i64 p.prep, .int .i64 p.cook]) hg) (by simp [Value.oneCell']) (by decide) (by unfold maxLen; omega) (by omega) hlo _ rfl ?_
  intro g' cap w' h1 h2 _ _
  refine h g' cap w' ?_ h2
  unfold DishSl
  rw [List.length_append, dishCells_snoc]
  exact h1
def seqDishes (k0 : Int) (n : Nat) : List Dish := (List.range n).map (fun (i : Nat) => ⟨k0 + 2 * (i : Int), k0 + 2 * (i : Int) + 1⟩)
theorem seqDishes_len (k0 : Int) (n : Nat) : (seqDishes k0 n).length = n := by simp [seqDishes]
theorem seqDishes_at {k0 : Int} {n i : Nat} (h : i < n) : (seqDishes k0 n)[i]? = some ⟨k0 + 2 * (i : Int), k0 + 2 * (i : Int) + 1⟩ := by simp [seqDishes, h]
theorem eq_seqDishes {k0 : Int} {ys : List Dish} {n : Nat} (hn : ys.length = n) (h : ∀ i, i < n → ys[i]? = some ⟨k0 + 2 * (i : Int), k0 + 2 * (i : Int) + 1⟩) : ys = seqDishes k0 n := by
  apply List.ext_getElem?
  intro i
  by_cases hi : i < n
  · rw [h i hi, seqDishes_at hi]
  · rw [List.getElem?_eq_none (by omega), List.getElem?_eq_none (by rw [seqDishes_len]; omega)]

set_option maxHeartbeats 800000 in
theorem markDishS_any (lo : Nat) (A : Option Addr) (c : Nat) (ls : List Dish) (k0 : Int) (w : World) (h : DishSl w lo (.slice A ls.length c) ls) (hn : ls.length ≤ 1048576) (hk0 : 0 ≤ k0) (hk1 : k0 ≤ 10000000000000) :
    Calls Try.prog 14 #[.slice A ls.length c, .int .i64 k0] w fun e w' => e = .returned (.int .i64 (k0 + 2 * (ls.length : Int))) ∧ DishSl w' lo (.slice A ls.length c) (seqDishes k0 ls.length) ∧ w.grownBy w' (Value.slice A ls.length c).ownBlock := by
  rcases Nat.eq_zero_or_pos ls.length with h0 | h0
  · have hnil : ls = [] := List.eq_nil_of_length_eq_zero h0
    subst hnil
    have h' : DishSl w lo (.slice A 0 c) (seqDishes k0 0) := h
    simp only [List.length_nil] at *
    go_enter Try.func14, Try.ntmps14
    go_wp2_with fail
    go_loopw [1, 5] (fun kv i wr => kv = .int .i64 k0 ∧ i = .int .i64 0 ∧ wr = w) (fun _ _ _ => 0)
    case atStart => exact ⟨rfl, rfl, rfl⟩
    case round =>
      obtain ⟨rfl, rfl, rfl⟩ := hrel
      go_wp2_with fail
      go_ret
      exact ⟨by simp, h', World.grownBy.refl _ _⟩
  · obtain ⟨g, rfl⟩ := ownsRow_head h h0
    have h1 : w.ownsRow lo 46 2 (.slice (some ⟨g, 0, none⟩) ls.length c) ls.length (dishCells ls) := h
    clear h
    go_enter Try.func14, Try.ntmps14
    go_wp2_with fail
    go_loopw [1, 5] (fun kv i wr => ∃ (k : Nat) (ys : List Dish), k ≤ ls.length ∧ kv = .int .i64 (k0 + 2 * k) ∧ i = .int .i64 k ∧ Hid (ys.length = ls.length) ∧ Hid (∀ i, i < k → ys[i]? = some ⟨k0 + 2 * (i : Int), k0 + 2 * (i : Int) + 1⟩) ∧ wr.ownsRow lo 46 2 (.slice (some ⟨g, 0, none⟩) ls.length c) ls.length (dishCells ys) ∧ w.grownBy wr (some g)) (fun _ i _ => ls.length - (intOf i).toNat)
    case atStart => exact ⟨0, ls, by omega, by simp, rfl, hide rfl, hide (fun i hi => absurd hi (by omega)), h1, World.grownBy.refl _ _⟩
    case round =>
      obtain ⟨k, ys, hk, rfl, rfl, HL, HY, hO, hg⟩ := hrel
      by_cases hlt : k < ls.length
      · have hz : (0 : Int) ≤ k := by omega
        have hz2 : (k : Int) < ls.length := by omega
        have hc1 : wr.cell? ⟨g, k * 2, none⟩ = some (dishCell ys (k * 2)) := by
          rw [World.ownsRow.cellAt hO (k * 2) (by omega)]
          exact dishCells_cell (by rw [HL.out]; omega)
        have hc2 : wr.cell? ⟨g, k * 2 + 1, none⟩ = some (dishCell ys (k * 2 + 1)) := by
          rw [World.ownsRow.cellAt hO (k * 2 + 1) (by omega)]
          exact dishCells_cell (by rw [HL.out]; omega)
        have hf := fun j => World.ownsRow.frozenAt hO j
        have hs1 := World.ownsRow.stored hO (k * 2) (.int .i64 (k0 + 2 * (k : Int)))
        have hs2 := World.ownsRow.stored hs1.1 (k * 2 + 1) (.int .i64 (k0 + 2 * (k : Int) + 1))
        have HG := hide ((hg.trans hs1.2).trans hs2.2)
        have HS := hide hs2.1
        have hne : ¬ (k * 2 + 1 = k * 2) := by omega
        clear hs1 hs2 hg hO
        go_wp2_with fail
        go_roundw
        case rel =>
          refine ⟨k + 1, ys.set k ⟨k0 + 2 * (k : Int), k0 + 2 * (k : Int) + 1⟩, hlt, by go_num, by go_num, hide (by rw [List.length_set]; exact HL.out), hide (fun i hi => ?_), ?_, HG.out⟩
          · by_cases e : i = k
            · subst e
              exact List.getElem?_set_self (by rw [HL.out]; exact hlt)
            · rw [List.getElem?_set_ne (fun h => e h.symm)]
              exact HY.out i (by omega)
          · rw [← dishCells_set _ _ _ _ (by rw [HL.out]; exact hlt)]
            exact HS.out
        case measure => simp [intOf]; omega
      · have HE : Hid (ys = seqDishes k0 ls.length) := hide (eq_seqDishes HL.out (fun i hi => HY.out i (by omega)))
        go_wp2_with fail
        go_ret
        refine ⟨?_, ?_, hg⟩
        · have : k = ls.length := by omega
          subst this
          rfl
        · rw [← HE.out]
          unfold DishSl
          rw [HL.out]
          exact hO

end Go.Proofs.Yteloapholoechab
