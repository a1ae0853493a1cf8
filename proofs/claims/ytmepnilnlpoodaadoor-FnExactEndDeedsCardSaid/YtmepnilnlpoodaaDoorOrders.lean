/- Lists of orders: contracts of the helpers that copy, compare, measure, mark and ask them; their reading among a row's arguments; slices that a call owns. (Written by tools/pairs.py.)
   Conditions: lists have at most 1048576 elements. -/
import Derived.Test.YtmepnilnlpoodaaDoorMarks2
namespace Go.Proofs.YtmepnilnlpoodaaDoor
open Go.RowKit Go.ChangeShapes Go.WideShapes Go.ChangeAt Go.Deep

structure Order where
  course : Int
  state : Int

def OrdersAt (w : World) (A : Option Addr) (ls : List Order) : Prop :=
  ∀ i p, ls[i]? = some p → ∃ b off, A = some ⟨b, off, none⟩ ∧ b < w.heap.size ∧ w.cell? ⟨b, off + i * 2, none⟩ = some (.int .i64 p.course) ∧ w.cell? ⟨b, off + i * 2 + 1, none⟩ = some (.int .i64 p.state)

theorem OrdersAt.below {w w' : World} {A : Option Addr} {ls : List Order} (h : OrdersAt w A ls) (hb : Below w.heap.size w w') : OrdersAt w' A ls := by
  intro i p hp
  obtain ⟨b, off, e, hlt, h1, h2⟩ := h i p hp
  exact ⟨b, off, e, Nat.lt_of_lt_of_le hlt hb.size, (hb.cell hlt).trans h1, (hb.cell hlt).trans h2⟩


def orderCell (ls : List Order) (j : Nat) : Value :=
  match ls[j / 2]? with
  | some p => if j % 2 = 0 then .int .i64 p.course else .int .i64 p.state
  | none => .int .i64 0

theorem orderCell_even {ls : List Order} {i : Nat} {p : Order} (h : ls[i]? = some p) : orderCell ls (i * 2) = .int .i64 p.course := by
  unfold orderCell; rw [show i * 2 / 2 = i from by omega, h]; simp
theorem orderCell_odd {ls : List Order} {i : Nat} {p : Order} (h : ls[i]? = some p) : orderCell ls (i * 2 + 1) = .int .i64 p.state := by
  unfold orderCell; rw [show (i * 2 + 1) / 2 = i from by omega, h]; simp

/-- Block g is the call's own row of the orders. -/
def OwnOrders (w : World) (g : Nat) (ls : List Order) : Prop := w.rowIs g 121 (ls.length * 2) (orderCell ls)

theorem OwnOrders.at_ {w : World} {g : Nat} {ls : List Order} (h : OwnOrders w g ls) : OrdersAt w (some ⟨g, 0, none⟩) ls := by
  intro i p hp
  have hi : i < ls.length := (List.getElem?_eq_some_iff.1 hp).1
  refine ⟨g, 0, rfl, h.lt, ?_, ?_⟩
  · rw [← orderCell_even hp, Nat.zero_add]; exact h.cell (by omega)
  · rw [← orderCell_odd hp, Nat.zero_add]; exact h.cell (by omega)

set_option maxHeartbeats 400000 in
theorem toOrder_any (a b : Int) (w : World) :
    Calls Tryd.prog 116 #[.agg #[.int .i64 a, .int .i64 b]] w fun e w' => e = .returned (.agg #[.int .i64 a, .int .i64 b]) ∧ Below w.heap.size w w' := by
  go_enter Tryd.func116, Tryd.ntmps116
  go_wp2_with fail
  exact bodyPost_ret (v := .agg #[.int .i64 a, .int .i64 b]) (by simp [results, Tryd.results116, go_sem]) rfl ⟨rfl, by go_grown⟩

theorem infoOrder : (Tryd.prog.info? 121).map (fun i => (i.zero, i.size, i.bytes)) = some (some (.agg #[.int .i64 0, .int .i64 0]), 2, 16) := by kernel_rfl

theorem make_orders (n : Nat) (hn : n ≤ 1048576) (w : World) :
    (Instr.makeSlice 113 (.int .i64 (n : Int)) (.int .i64 (n : Int))).run Tryd.prog w = .ok (.slice (some ⟨w.heap.size, 0, none⟩) n n) (w.alloc (.cells (madeCells #[.int .i64 0, .int .i64 0] (n * 2)) 121)) := by
  obtain ⟨i0, hi, hz0, hz1, hz2⟩ := info_parts infoOrder
  have := run_make (P := Tryd.prog) w 113 121 i0 _ Tryd.underlying113 hi hz0 .i64 .i64 n n (by omega) (by omega) (by rw [hz2]; omega) (by omega)
  simpa [hz1, Value.cells] using this

set_option maxHeartbeats 400000 in
theorem toOrderS_any (A : Option Addr) (c : Nat) (ls : List Order) (w : World) (h1 : OrdersAt w A ls) (hl : ls.length ≤ 1048576) :
    Calls Tryd.prog 96 #[.slice A ls.length c] w fun e w' => e = .returned (.slice (some ⟨w.heap.size, 0, none⟩) ls.length ls.length) ∧ OwnOrders w' w.heap.size ls ∧ Below w.heap.size w w' := by
  have hmk := make_orders ls.length hl
  go_enter Tryd.func96, Tryd.ntmps96
  go_wp2_with fail
  clear hmk
  go_loopw [4] (fun i wr => ∃ k : Nat, k ≤ ls.length ∧ i = .int .i64 k ∧ wr.rowIs w.heap.size 121 (ls.length * 2) (fun j => if j < k * 2 then orderCell ls j else .int .i64 0) ∧ Below w.heap.size w wr) (fun i _ => ls.length - (intOf i).toNat)
  case atStart => exact ⟨0, Nat.zero_le _, rfl, ⟨_, Deep.blk_alloc_new _ _, size_madeCells _ _, fun i hi => by rw [made2 _ _ hi]; simp⟩, by go_grown⟩
  case round =>
    obtain ⟨k, hk, rfl, hrow, hb⟩ := hrel
    have hsz := hb.size
    by_cases hlt : k < ls.length
    · obtain ⟨b, off, rfl, hbl, hc1, hc2⟩ := (h1.below hb) k ls[k] (List.getElem?_eq_getElem hlt)
      have HP : Hid (ls[k]? = some ls[k]) := hide (List.getElem?_eq_getElem hlt)
      generalize ls[k] = p at *
      have hz : (0 : Int) ≤ k := by omega
      have hz2 : (k : Int) < ls.length := by omega
      go_wp2_with fail
      refine (toOrder_any _ _ _).mono ?_
      rintro e w' ⟨rfl, hB⟩
      have hrow2 := hrow.of_block (hB.block _ hrow.lt)
      have hq1 := hrow2.cell (i := k * 2) (by omega)
      have hq2 := hrow2.cell (i := k * 2 + 1) (by omega)
      have hf := hrow2.frozen
      have hb2 : Below w.heap.size w w' := next hb hB
      have hsz2 := hb2.size
      go_wp2_with fail
      go_roundw
      case rel =>
        refine ⟨k + 1, hlt, by go_num, ((hrow2.set (k * 2) _).set (k * 2 + 1) _).congr (fun j hj => ?_), by go_grown⟩
        rcases Nat.lt_trichotomy j (k * 2) with h | h | h
        · rw [if_neg (by omega), if_neg (by omega), if_pos h, if_pos (by omega)]
        · subst h
          rw [if_neg (by omega), if_pos rfl, if_pos (by omega), orderCell_even HP.out]
        · by_cases h' : j = k * 2 + 1
          · subst h'
            rw [if_pos rfl, if_pos (by omega), orderCell_odd HP.out]
          · rw [if_neg h', if_neg (by omega), if_neg (by omega), if_neg (by omega)]
      case measure => simp [intOf]; omega
    · go_wp2_with fail
      go_ret
      exact ⟨rfl, hrow.congr (fun i hi => if_pos (by omega)), by go_grown⟩
set_option maxHeartbeats 400000 in
theorem eqOrder_same (p : Order) (w : World) :
    Calls Tryd.prog 124 #[.agg #[.int .i64 p.course, .int .i64 p.state], .agg #[.int .i64 p.course, .int .i64 p.state]] w fun e w' => e = .returned (.bool true) ∧ Below w.heap.size w w' := by
  generalize p.course = a
  generalize p.state = b
  have ha : (a != a) = false := by simp
  have hb : (b != b) = false := by simp
  go_enter Tryd.func124, Tryd.ntmps124
  go_wp2_with fail
  go_ret
  exact ⟨rfl, by go_grown⟩

set_option maxHeartbeats 400000 in
theorem eqOrderS_same (A A' : Option Addr) (c c' : Nat) (ls : List Order) (w : World) (h1 : OrdersAt w A ls) (h2 : OrdersAt w A' ls) (hl : ls.length ≤ 1048576) :
    Calls Tryd.prog 103 #[.slice A ls.length c, .slice A' ls.length c'] w fun e w' => e = .returned (.bool true) ∧ Below w.heap.size w w' := by
  have he : ((ls.length : Int) != ls.length) = false := by simp
  go_enter Tryd.func103, Tryd.ntmps103
  go_wp2_with fail
  go_loopw [5] (fun i wr => ∃ k : Nat, k ≤ ls.length ∧ i = .int .i64 k ∧ Below w.heap.size w wr) (fun i _ => ls.length - (intOf i).toNat)
  case atStart => exact ⟨0, Nat.zero_le _, rfl, Below.refl _ _⟩
  case round =>
    obtain ⟨k, hk, rfl, hb⟩ := hrel
    have hsz := hb.size
    by_cases hlt : k < ls.length
    · obtain ⟨b, off, rfl, hbl, hc1, hc2⟩ := h1 k ls[k] (List.getElem?_eq_getElem hlt)
      obtain ⟨b', off', rfl, hbl', hc1', hc2'⟩ := h2 k ls[k] (List.getElem?_eq_getElem hlt)
      rw [← hb.cell hbl] at hc1 hc2
      rw [← hb.cell hbl'] at hc1' hc2'
      generalize ls[k] = p at *
      have hz : (0 : Int) ≤ k := by omega
      have hz2 : (k : Int) < ls.length := by omega
      go_wp2_with fail
      go_region_held3 (fun W => W.cell? ⟨b, off + k * 2, none⟩ = some (.int .i64 p.course) ∧ W.cell? ⟨b, off + k * 2 + 1, none⟩ = some (.int .i64 p.state) ∧ W.cell? ⟨b', off' + k * 2, none⟩ = some (.int .i64 p.course) ∧ W.cell? ⟨b', off' + k * 2 + 1, none⟩ = some (.int .i64 p.state) ∧ Below w.heap.size w W)
        (first | exact ⟨hc1, hc2, hc1', hc2', hb.drew⟩ | exact ⟨(hB.cell (Nat.lt_of_lt_of_le hbl hsz)).trans hc1, (hB.cell (Nat.lt_of_lt_of_le hbl hsz)).trans hc2, (hB.cell (Nat.lt_of_lt_of_le hbl' hsz)).trans hc1', (hB.cell (Nat.lt_of_lt_of_le hbl' hsz)).trans hc2', hb.drew.trans (hB.mono hsz)⟩)
        (first | (go_at_call 124; refine (eqOrder_same _ _).mono ?_; rintro e W' ⟨rfl, hB⟩))
      have hb2 : Below w.heap.size w W' := hb.drew.trans (hB.mono hsz)
      have hsz2 := hb2.size
      go_wp2_with fail
      go_roundw
      case rel => exact ⟨k + 1, hlt, by go_num, by go_grown⟩
      case measure => simp [intOf]; omega
    · go_wp2_with fail
      go_ret
      exact ⟨rfl, by go_grown⟩

theorem OwnOrders.below {w w' : World} {g : Nat} {ls : List Order} (h : OwnOrders w g ls) (hb : Below w.heap.size w w') : OwnOrders w' g ls := World.rowIs.of_block h (hb.block _ (World.rowIs.lt h))

set_option maxHeartbeats 400000 in
theorem szOrderS_any (A : Option Addr) (c n : Nat) (left : Int) (w : World) (h0 : 0 ≤ left) (h1 : left ≤ 1048576) (hl : n ≤ 9223372036854775807) :
    Calls Tryd.prog 90 #[.slice A n c, .int .i64 left] w fun e w' => e = .returned (.int .i64 (szP left n)) ∧ w = w' := by
  unfold szP
  by_cases h : left - n < 0
  · rw [if_pos h]
    go_enter Tryd.func90, Tryd.ntmps90
    go_wp2_with fail
    go_ret
    exact ⟨rfl, rfl⟩
  · rw [if_neg h]
    go_enter Tryd.func90, Tryd.ntmps90
    go_wp2_with fail
    go_ret
    exact ⟨rfl, rfl⟩

theorem szOrderS_b (A : Option Addr) (c n : Nat) (left : Int) (w : World) (h0 : 0 ≤ left) (h1 : left ≤ 1048576) (hl : n ≤ 9223372036854775807) :
    Calls Tryd.prog 90 #[.slice A n c, .int .i64 left] w fun e w' => e = .returned (.int .i64 (szP left n)) ∧ Below w.heap.size w w' :=
  (szOrderS_any A c n left w h0 h1 hl).mono fun e w' ⟨he, hw⟩ => ⟨he, by subst hw; exact Below.refl _ _⟩

instance : Inhabited Order := ⟨⟨0, 0⟩⟩

section
variable {H : Type} {enc : TypeId × Value → H} {w : World} {base : Nat} {spare : Nat → Bool} {held : Bool}

theorem open_orders {fuel : Nat} {cs : List Value} {x : DataW H × List MemPlace} (h : DataW.trod enc Tryd.prog w base spare held fuel 109 cs = some x) :
    ∃ A c ls, cs = [.slice A ls.length c] ∧ OrdersAt w A ls ∧ ls.length ≤ 9223372036854775807 := by
  rcases open_slice Tryd.underlying109 h with ⟨rfl, _⟩ | ⟨a, len, cap, m, n, D, Pl, rfl, _, hl, hm, hmm, _, hi⟩
  · exact ⟨none, 0, [], rfl, fun i p hp => by simp at hp, by simp⟩
  · have hlm : len ≤ m := by rw [hmm]; split <;> omega
    have hcells : Tryd.prog.cellsOf 161 = 2 := by kernel_rfl
    rw [hcells] at hi
    obtain ⟨f, hf⟩ := choose_lt (α := Order) (n := len) (p := fun i p => w.cell? (a.add (i * 2)) = some (.int .i64 p.course) ∧ w.cell? (a.add (i * 2 + 1)) = some (.int .i64 p.state)) (fun i hil => by
      obtain ⟨cs', hc, ht⟩ := hi i (by omega)
      obtain ⟨_, _, hat⟩ := World.cells?_some hc
      obtain ⟨u, v, h0, h1⟩ := two_cells Tryd.underlying161 (by simp) ht
      have e0 := hat 0 (by omega)
      have e1 := hat 1 (by omega)
      rw [Go.Deep.add_add, h0] at e0
      rw [Go.Deep.add_add, h1] at e1
      exact ⟨⟨u, v⟩, e0, e1⟩)
    refine ⟨some a, cap, (List.range len).map f, by simp, fun i p hp => ?_, by simp only [List.length_map, List.length_range]; unfold maxLen at hm; omega⟩
    have hil : i < len := by have := (List.getElem?_eq_some_iff.1 hp).1; simpa using this
    have hpe : f i = p := by simpa [hil] using hp
    obtain ⟨g0, g1⟩ := hf i hil
    rw [hpe] at g0 g1
    obtain ⟨b, off, rfl, hadd⟩ := addr_of (hf 0 (by omega)).1
    rw [hadd] at g0 g1
    exact ⟨b, off, rfl, (cell_lt g0).1, g0, by rw [Nat.add_assoc]; exact g1⟩

end

def orderCells (ls : List Order) : List Value := ls.flatMap (fun p => [.int .i64 p.course, .int .i64 p.state])
theorem orderCells_cons (q : Order) (r : List Order) : orderCells (q :: r) = .int .i64 q.course :: .int .i64 q.state :: orderCells r := by simp [orderCells]
theorem orderCells_at : ∀ {ls : List Order} {i : Nat} {p : Order}, ls[i]? = some p → (orderCells ls)[i * 2]? = some (.int .i64 p.course) ∧ (orderCells ls)[i * 2 + 1]? = some (.int .i64 p.state)
  | [], i, p, h => by simp at h
  | q :: r, 0, p, h => by
    obtain rfl : q = p := by simpa using h
    exact ⟨rfl, rfl⟩
  | q :: r, i + 1, p, h => by
    have := orderCells_at (ls := r) (i := i) (p := p) (by simpa using h)
    rw [show (i + 1) * 2 = i * 2 + 1 + 1 from by omega, orderCells_cons]
    exact this
theorem orderCells_len (ls : List Order) : (orderCells ls).length = ls.length * 2 := by
  induction ls with
  | nil => rfl
  | cons q r ih => rw [orderCells_cons]; simp only [List.length_cons, ih]; omega
theorem orderCells_snoc (ls : List Order) (p : Order) : orderCells (ls ++ [p]) = orderCells ls ++ [.int .i64 p.course, .int .i64 p.state] := by simp [orderCells]
theorem orderCells_set (a b : Int) : ∀ (ls : List Order) (i : Nat), i < ls.length → ((orderCells ls).set (i * 2) (.int .i64 a)).set (i * 2 + 1) (.int .i64 b) = orderCells (ls.set i ⟨a, b⟩)
  | [], i, h => by simp at h
  | q :: r, 0, _ => by rw [List.set_cons_zero, orderCells_cons, orderCells_cons]; rfl
  | q :: r, i + 1, h => by
    have ih := orderCells_set a b r i (by simpa using h)
    rw [List.set_cons_succ, orderCells_cons, orderCells_cons, ← ih, show (i + 1) * 2 = i * 2 + 1 + 1 from by omega]
    rfl
theorem orderCells_cell {ls : List Order} {j : Nat} (h : j < ls.length * 2) : (orderCells ls)[j]? = some (orderCell ls j) := by
  have hi : j / 2 < ls.length := by omega
  have hx := List.getElem?_eq_getElem hi
  have hc := orderCells_at hx
  rcases (by omega : j = j / 2 * 2 ∨ j = j / 2 * 2 + 1) with e | e
  · rw [e, hc.1, orderCell_even hx]
  · rw [e, hc.2, orderCell_odd hx]

/-- The slice value v owns, from block lo on, the orders. -/
def OrderSl (w : World) (lo : Nat) (v : Value) (ls : List Order) : Prop := w.ownsRow lo 121 2 v ls.length (orderCells ls)

theorem OrderSl.form {w : World} {lo : Nat} {v : Value} {ls : List Order} (h : OrderSl w lo v ls) : ∃ A c, v = .slice A ls.length c ∧ OrdersAt w A ls := by
  have hlt := h.lt
  rcases h.2 with ⟨hv, hn⟩ | ⟨g, cap, cur, hv, _⟩
  · have : ls = [] := List.eq_nil_of_length_eq_zero hn
    subst this
    exact ⟨none, 0, hv, fun i x hx => by simp at hx⟩
  · refine ⟨some ⟨g, 0, none⟩, cap, hv, fun i p hp => ?_⟩
    subst hv
    have hi : i < ls.length := (List.getElem?_eq_some_iff.1 hp).1
    have hc := orderCells_at hp
    refine ⟨g, 0, rfl, (hlt g rfl).2, ?_, ?_⟩
    · rw [Nat.zero_add, World.ownsRow.cellAt h (i * 2) (by omega)]; exact hc.1
    · rw [Nat.zero_add, World.ownsRow.cellAt h (i * 2 + 1) (by omega)]; exact hc.2

theorem OrderSl.orders {w : World} {lo n c : Nat} {A : Option Addr} {ls : List Order} (h : OrderSl w lo (.slice A n c) ls) : OrdersAt w A ls := by
  obtain ⟨A', c', e, hI⟩ := h.form
  injection e with e
  rw [e]
  exact hI

theorem OwnOrders.sl {w : World} {lo g : Nat} {ls : List Order} (h : OwnOrders w g ls) (hlo : lo ≤ g) (hn : ls.length ≤ 1048576) : OrderSl w lo (.slice (some ⟨g, 0, none⟩) ls.length ls.length) ls :=
  ownsRow_of_row (size := 2) (n := ls.length) h hlo (by unfold maxLen; omega) (orderCells_len ls) (fun i hi => orderCells_cell hi)

theorem OrderSl.below {w w' : World} {lo : Nat} {v : Value} {ls : List Order} (h : OrderSl w lo v ls) (hb : Below w.heap.size w w') : OrderSl w' lo v ls := ownsRow_below h hb
theorem OrderSl.row {w w' : World} {lo : Nat} {v : Value} {ls : List Order} {q : Option Nat} (h : OrderSl w lo v ls) (hg : w.grownBy w' q) (hne : v.ownBlock = none ∨ v.ownBlock ≠ q) : OrderSl w' lo v ls := World.ownsRow.kept h hg hne

theorem OrderSl.store2 {w : World} {lo g n cap : Nat} {ls : List Order} (h : OrderSl w lo (.slice (some ⟨g, 0, none⟩) n cap) ls) (i : Nat) (hi : i < ls.length) (a b : Int) :
    OrderSl ((w.setCell ⟨g, i * 2, none⟩ (.int .i64 a)).setCell ⟨g, i * 2 + 1, none⟩ (.int .i64 b)) lo (.slice (some ⟨g, 0, none⟩) n cap) (ls.set i ⟨a, b⟩) := by
  obtain ⟨A, c, e, _⟩ := h.form
  injection e with e1 e2 e3
  subst e2
  have := (World.ownsRow.stored (World.ownsRow.stored h (i * 2) (.int .i64 a)).1 (i * 2 + 1) (.int .i64 b)).1
  unfold OrderSl
  rw [← orderCells_set a b ls i hi, List.length_set]
  exact this

/-- Append of one order, at a step of a region that draws its order. -/
theorem step_push_order {W : World} {ops : Array Oper} {o : Oper} {a : Act} {K : Act → World → Prop} {Q : Exit → Act → World → Prop} {E : Prop} (hgd : o.guard = none) (s x : Operand)
    (ho : o.op = .call { callee := .builtin .append, args := #[s, x], argTypes := #[113, 113] }) (lo : Nat) (v : Value) (ls : List Order) (hs : a.eval s = v) (hown : OrderSl W lo v ls) (g : Nat) (p : Order)
    (hx : a.eval x = .slice (some ⟨g, 0, none⟩) 1 1) (hg : W.heap[g]? = some (.cells #[.int .i64 p.course, .int .i64 p.state] 121 (0, 0))) (hn : ls.length ≤ 1048576) (hlo : lo ≤ W.heap.size)
    (h : ∀ g' cap w', OrderSl w' lo (.slice (some ⟨g', 0, none⟩) (ls.length + 1) cap) (ls ++ [p]) → W.grownBy w' v.ownBlock → K (a.put o.dst (.slice (some ⟨g', 0, none⟩) (ls.length + 1) cap)) w') :
    if Region.wanted o (yielded ops a.tmps) = true then Oper.wp Tryd.prog o a W K Q else E := by
  obtain ⟨i0, hi, hz0, hz1, hz2⟩ := info_parts infoOrder
  refine step_append_lies W hgd s x 113 ho lo 121 i0 _ 2 16 Tryd.underlying113 hi hz0 hz1 hz2 rfl (by decide) v ls.length (orderCells ls) hs hown ⟨g, 0, none⟩ 1 1 [.int .i64 p.course, .int .i64 p.state] hx rfl
    (World.news_of_block (cs := #[.int .i64 p.course, .int .i64 p.state]) hg) (by simp [Value.oneCell']) (by decide) (by unfold maxLen; omega) (by omega) hlo _ rfl ?_
  intro g' cap w' h1 h2 _ _
  refine h g' cap w' ?_ h2
  unfold OrderSl
  rw [List.length_append, orderCells_snoc]
  exact h1

/-- Append of one order, in a plain region. -/
theorem wpList_push_order {W : World} {ops : Array Oper} {rest : List Oper} {o : Oper} {a : Act} {Q : Exit → Act → World → Prop} (hgd : o.guard = none) (s x : Operand)
    (ho : o.op = .call { callee := .builtin .append, args := #[s, x], argTypes := #[113, 113] }) (lo : Nat) (v : Value) (ls : List Order) (hs : a.eval s = v) (hown : OrderSl W lo v ls) (g : Nat) (p : Order)
    (hx : a.eval x = .slice (some ⟨g, 0, none⟩) 1 1) (hg : W.heap[g]? = some (.cells #[.int .i64 p.course, .int .i64 p.state] 121 (0, 0))) (hn : ls.length ≤ 1048576) (hlo : lo ≤ W.heap.size)
    (h : ∀ g' cap w', OrderSl w' lo (.slice (some ⟨g', 0, none⟩) (ls.length + 1) cap) (ls ++ [p]) → W.grownBy w' v.ownBlock → wpList Tryd.prog ops Q rest (a.put o.dst (.slice (some ⟨g', 0, none⟩) (ls.length + 1) cap)) w') :
    wpList Tryd.prog ops Q (o :: rest) a W := by
  obtain ⟨i0, hi, hz0, hz1, hz2⟩ := info_parts infoOrder
  refine wpList_append_lies W hgd s x 113 ho lo 121 i0 _ 2 16 Tryd.underlying113 hi hz0 hz1 hz2 rfl (by decide) v ls.length (orderCells ls) hs hown ⟨g, 0, none⟩ 1 1 [.int .i64 p.course, .int .i64 p.state] hx rfl
    (World.news_of_block (cs := #[.int .i64 p.course, .int .i64 p.state]) hg) (by simp [Value.oneCell']) (by decide) (by unfold maxLen; omega) (by omega) hlo _ rfl ?_
  intro g' cap w' h1 h2 _ _
  refine h g' cap w' ?_ h2
  unfold OrderSl
  rw [List.length_append, orderCells_snoc]
  exact h1
def seqOrders (k0 : Int) (n : Nat) : List Order := (List.range n).map (fun (i : Nat) => ⟨k0 + 2 * (i : Int), k0 + 2 * (i : Int) + 1⟩)
theorem seqOrders_len (k0 : Int) (n : Nat) : (seqOrders k0 n).length = n := by simp [seqOrders]
theorem seqOrders_at {k0 : Int} {n i : Nat} (h : i < n) : (seqOrders k0 n)[i]? = some ⟨k0 + 2 * (i : Int), k0 + 2 * (i : Int) + 1⟩ := by simp [seqOrders, h]
theorem eq_seqOrders {k0 : Int} {ys : List Order} {n : Nat} (hn : ys.length = n) (h : ∀ i, i < n → ys[i]? = some ⟨k0 + 2 * (i : Int), k0 + 2 * (i : Int) + 1⟩) : ys = seqOrders k0 n := by
  apply List.ext_getElem?
  intro i
  by_cases hi : i < n
  · rw [h i hi, seqOrders_at hi]
  · rw [List.getElem?_eq_none (by omega), List.getElem?_eq_none (by rw [seqOrders_len]; omega)]

set_option maxHeartbeats 800000 in
theorem markOrderS_any (lo : Nat) (A : Option Addr) (c : Nat) (ls : List Order) (k0 : Int) (w : World) (h : OrderSl w lo (.slice A ls.length c) ls) (hn : ls.length ≤ 1048576) (hk0 : 0 ≤ k0) (hk1 : k0 ≤ 10000000000000) :
    Calls Tryd.prog 83 #[.slice A ls.length c, .int .i64 k0] w fun e w' => e = .returned (.int .i64 (k0 + 2 * (ls.length : Int))) ∧ OrderSl w' lo (.slice A ls.length c) (seqOrders k0 ls.length) ∧ w.grownBy w' (Value.slice A ls.length c).ownBlock := by
  rcases Nat.eq_zero_or_pos ls.length with h0 | h0
  · have hnil : ls = [] := List.eq_nil_of_length_eq_zero h0
    subst hnil
    have h' : OrderSl w lo (.slice A 0 c) (seqOrders k0 0) := h
    simp only [List.length_nil] at *
    go_enter Tryd.func83, Tryd.ntmps83
    go_wp2_with fail
    go_loopw [1, 5] (fun kv i wr => kv = .int .i64 k0 ∧ i = .int .i64 0 ∧ wr = w) (fun _ _ _ => 0)
    case atStart => exact ⟨rfl, rfl, rfl⟩
    case round =>
      obtain ⟨rfl, rfl, rfl⟩ := hrel
      go_wp2_with fail
      go_ret
      exact ⟨by simp, h', World.grownBy.refl _ _⟩
  · obtain ⟨g, rfl⟩ := ownsRow_head h h0
    have h1 : w.ownsRow lo 121 2 (.slice (some ⟨g, 0, none⟩) ls.length c) ls.length (orderCells ls) := h
    clear h
    go_enter Tryd.func83, Tryd.ntmps83
    go_wp2_with fail
    go_loopw [1, 5] (fun kv i wr => ∃ (k : Nat) (ys : List Order), k ≤ ls.length ∧ kv = .int .i64 (k0 + 2 * k) ∧ i = .int .i64 k ∧ Hid (ys.length = ls.length) ∧ Hid (∀ i, i < k → ys[i]? = some ⟨k0 + 2 * (i : Int), k0 + 2 * (i : Int) + 1⟩) ∧ wr.ownsRow lo 121 2 (.slice (some ⟨g, 0, none⟩) ls.length c) ls.length (orderCells ys) ∧ w.grownBy wr (some g)) (fun _ i _ => ls.length - (intOf i).toNat)
    case atStart => exact ⟨0, ls, by omega, by simp, rfl, hide rfl, hide (fun i hi => absurd hi (by omega)), h1, World.grownBy.refl _ _⟩
    case round =>
      obtain ⟨k, ys, hk, rfl, rfl, HL, HY, hO, hg⟩ := hrel
      by_cases hlt : k < ls.length
      · have hz : (0 : Int) ≤ k := by omega
        have hz2 : (k : Int) < ls.length := by omega
        have hc1 : wr.cell? ⟨g, k * 2, none⟩ = some (orderCell ys (k * 2)) := by
          rw [World.ownsRow.cellAt hO (k * 2) (by omega)]
          exact orderCells_cell (by rw [HL.out]; omega)
        have hc2 : wr.cell? ⟨g, k * 2 + 1, none⟩ = some (orderCell ys (k * 2 + 1)) := by
          rw [World.ownsRow.cellAt hO (k * 2 + 1) (by omega)]
          exact orderCells_cell (by rw [HL.out]; omega)
        have hf := fun j => World.ownsRow.frozenAt hO j
        have hs1 := World.ownsRow.stored hO (k * 2) (.int .i64 (k0 + 2 * (k : Int)))
        have hs2 := World.ownsRow.stored hs1.1 (k * 2 + 1) (.int .i64 (k0 + 2 * (k : Int) + 1))
        have HG := hide ((hg.trans hs1.2).trans hs2.2)
        have HS := hide hs2.1
        have hne : ¬ (k * 2 + 1 = k * 2) := by omega
        clear hs1 hs2 hg hO
        go_wp2_with fail
        go_roundw
        case rel =>
          refine ⟨k + 1, ys.set k ⟨k0 + 2 * (k : Int), k0 + 2 * (k : Int) + 1⟩, hlt, by go_num, by go_num, hide (by rw [List.length_set]; exact HL.out), hide (fun i hi => ?_), ?_, HG.out⟩
          · by_cases e : i = k
            · subst e
              exact List.getElem?_set_self (by rw [HL.out]; exact hlt)
            · rw [List.getElem?_set_ne (fun h => e h.symm)]
              exact HY.out i (by omega)
          · rw [← orderCells_set _ _ _ _ (by rw [HL.out]; exact hlt)]
            exact HS.out
        case measure => simp [intOf]; omega
      · have HE : Hid (ys = seqOrders k0 ls.length) := hide (eq_seqOrders HL.out (fun i hi => HY.out i (by omega)))
        go_wp2_with fail
        go_ret
        refine ⟨?_, ?_, hg⟩
        · have : k = ls.length := by omega
          subst this
          rfl
        · rw [← HE.out]
          unfold OrderSl
          rw [HL.out]
          exact hO

end Go.Proofs.YtmepnilnlpoodaaDoor
