/- Houses that the call itself laid: each of their rows in a block of its own; what stores, appends and further worlds keep of them.
   Conditions: none.
   Houses that the call itself laid: rows of items and of tables that are made, filled, grown and made shorter; a site.
   Conditions: none.
   A site: a block that holds the rows of a house, and what its steps keep of it.
   Conditions: none. -/
import Derived.Test.YtmepnilnlpoodaaDoorHseMem
import Derived.Test.YtmepnilnlpoodaaDoorPartRow
import Derived.Test.YtmepnilnlpoodaaDoorTab
namespace Go.Proofs.YtmepnilnlpoodaaDoor
open Go.RowKit Go.ChangeShapes Go.WideShapes Go.ChangeAt Go.Deep

theorem ownsRow_keepH {w w' : World} {lo size n : Nat} {e : TypeId} {v : Value} {xs : List Value} (h : w.ownsRow lo e size v n xs) (hk : ∀ k, v.ownBlock = some k → w'.heap[k]? = w.heap[k]?) : w'.ownsRow lo e size v n xs := by
  refine ⟨h.1, ?_⟩
  rcases h.2 with hn | ⟨g, cap, cur, rfl, hb, hgg, rest⟩
  · exact .inl hn
  · exact .inr ⟨g, cap, cur, rfl, hb, (hk g rfl).trans hgg, rest⟩

theorem ownsRow_monoH {w : World} {lo lo' size n : Nat} {e : TypeId} {v : Value} {xs : List Value} (h : w.ownsRow lo e size v n xs) (hb : lo' ≤ lo) : w.ownsRow lo' e size v n xs := by
  refine ⟨h.1, ?_⟩
  rcases h.2 with hn | ⟨g, cap, cur, rfl, hb', rest⟩
  · exact .inl hn
  · exact .inr ⟨g, cap, cur, rfl, Nat.le_trans hb hb', rest⟩

/-- The cells of a list of items whose parts are the slices 4, 7, 10 .. of V. -/
def itemCH (V : Nat → Value) (l : List Item) (j : Nat) : Value :=
  match l[j / 3]? with
  | some x => if j % 3 = 0 then .int .i64 x.yield else if j % 3 = 1 then V (4 + 3 * (j / 3)) else .int .i64 x.marks
  | none => .int .i64 0
def itemCs (V : Nat → Value) (l : List Item) : List Value := (List.range (l.length * 3)).map (itemCH V l)
/-- The cells of a list of tables whose dishes are the slices 5, 8, 11 .., and whose items the slices 6, 9, 12 .. of V. -/
def tableCH (V : Nat → Value) (l : List Tbl) (j : Nat) : Value :=
  match l[j / 3]? with
  | some x => if j % 3 = 0 then .int .i64 x.avoid else if j % 3 = 1 then V (5 + 3 * (j / 3)) else V (6 + 3 * (j / 3))
  | none => .int .i64 0
def tableCs (V : Nat → Value) (l : List Tbl) : List Value := (List.range (l.length * 3)).map (tableCH V l)

theorem itemCs_len (V : Nat → Value) (l : List Item) : (itemCs V l).length = l.length * 3 := by simp [itemCs]
theorem tableCs_len (V : Nat → Value) (l : List Tbl) : (tableCs V l).length = l.length * 3 := by simp [tableCs]
theorem itemCs_get {V : Nat → Value} {l : List Item} {j : Nat} (h : j < l.length * 3) : (itemCs V l)[j]? = some (itemCH V l j) := by
  simp [itemCs, h]
theorem tableCs_get {V : Nat → Value} {l : List Tbl} {j : Nat} (h : j < l.length * 3) : (tableCs V l)[j]? = some (tableCH V l j) := by
  simp [tableCs, h]
theorem itemCs_at {V : Nat → Value} {l : List Item} {i : Nat} {x : Item} (h : l[i]? = some x) :
    (itemCs V l)[i * 3]? = some (.int .i64 x.yield) ∧ (itemCs V l)[i * 3 + 1]? = some (V (4 + 3 * i)) ∧ (itemCs V l)[i * 3 + 2]? = some (.int .i64 x.marks) := by
  have hi : i < l.length := (List.getElem?_eq_some_iff.1 h).1
  refine ⟨?_, ?_, ?_⟩
  · rw [itemCs_get (by omega)]; unfold itemCH; rw [show i * 3 / 3 = i from by omega, h]; simp
  · rw [itemCs_get (by omega)]; unfold itemCH; rw [show (i * 3 + 1) / 3 = i from by omega, h]; simp [show (i * 3 + 1) % 3 = 1 from by omega]
  · rw [itemCs_get (by omega)]; unfold itemCH; rw [show (i * 3 + 2) / 3 = i from by omega, h]; simp [show (i * 3 + 2) % 3 = 2 from by omega]
theorem tableCs_at {V : Nat → Value} {l : List Tbl} {i : Nat} {x : Tbl} (h : l[i]? = some x) :
    (tableCs V l)[i * 3]? = some (.int .i64 x.avoid) ∧ (tableCs V l)[i * 3 + 1]? = some (V (5 + 3 * i)) ∧ (tableCs V l)[i * 3 + 2]? = some (V (6 + 3 * i)) := by
  have hi : i < l.length := (List.getElem?_eq_some_iff.1 h).1
  refine ⟨?_, ?_, ?_⟩
  · rw [tableCs_get (by omega)]; unfold tableCH; rw [show i * 3 / 3 = i from by omega, h]; simp
  · rw [tableCs_get (by omega)]; unfold tableCH; rw [show (i * 3 + 1) / 3 = i from by omega, h]; simp [show (i * 3 + 1) % 3 = 1 from by omega]
  · rw [tableCs_get (by omega)]; unfold tableCH; rw [show (i * 3 + 2) / 3 = i from by omega, h]; simp [show (i * 3 + 2) % 3 = 2 from by omega]
theorem itemCs_congr {V V' : Nat → Value} {l : List Item} (h : ∀ i, i < l.length → V (4 + 3 * i) = V' (4 + 3 * i)) : itemCs V l = itemCs V' l := by
  refine List.map_congr_left (fun j hj => ?_)
  have hj := List.mem_range.1 hj
  unfold itemCH
  rw [h (j / 3) (by omega)]
theorem tableCs_congr {V V' : Nat → Value} {l : List Tbl} (h : ∀ i, i < l.length → V (5 + 3 * i) = V' (5 + 3 * i) ∧ V (6 + 3 * i) = V' (6 + 3 * i)) : tableCs V l = tableCs V' l := by
  refine List.map_congr_left (fun j hj => ?_)
  have hj := List.mem_range.1 hj
  unfold tableCH
  rw [(h (j / 3) (by omega)).1, (h (j / 3) (by omega)).2]
theorem range_snoc3 (n : Nat) : List.range ((n + 1) * 3) = List.range (n * 3) ++ [n * 3, n * 3 + 1, n * 3 + 2] := by
  rw [show (n + 1) * 3 = n * 3 + 1 + 1 + 1 from by omega, List.range_succ, List.range_succ, List.range_succ]
  simp
theorem itemCs_snoc (V : Nat → Value) (l : List Item) (x : Item) : itemCs V (l ++ [x]) = itemCs V l ++ [.int .i64 x.yield, V (4 + 3 * l.length), .int .i64 x.marks] := by
  have hx : (l ++ [x])[l.length]? = some x := by simp
  obtain ⟨a, b, c⟩ := itemCs_at (V := V) hx
  apply List.ext_getElem?
  intro j
  by_cases hj : j < l.length * 3
  · rw [List.getElem?_append_left (by rw [itemCs_len]; exact hj), itemCs_get (by simp; omega), itemCs_get hj]
    unfold itemCH
    rw [List.getElem?_append_left (by omega)]
  · rw [List.getElem?_append_right (by rw [itemCs_len]; omega), itemCs_len]
    rcases (by omega : j = l.length * 3 ∨ j = l.length * 3 + 1 ∨ j = l.length * 3 + 2 ∨ l.length * 3 + 3 ≤ j) with e | e | e | e
    · subst e; rw [a]; simp
    · subst e; rw [b]; simp
    · subst e; rw [c]; simp
    · rw [List.getElem?_eq_none (by rw [itemCs_len]; simp; omega), List.getElem?_eq_none (by simp; omega)]
theorem tableCs_snoc (V : Nat → Value) (l : List Tbl) (x : Tbl) : tableCs V (l ++ [x]) = tableCs V l ++ [.int .i64 x.avoid, V (5 + 3 * l.length), V (6 + 3 * l.length)] := by
  have hx : (l ++ [x])[l.length]? = some x := by simp
  obtain ⟨a, b, c⟩ := tableCs_at (V := V) hx
  apply List.ext_getElem?
  intro j
  by_cases hj : j < l.length * 3
  · rw [List.getElem?_append_left (by rw [tableCs_len]; exact hj), tableCs_get (by simp; omega), tableCs_get hj]
    unfold tableCH
    rw [List.getElem?_append_left (by omega)]
  · rw [List.getElem?_append_right (by rw [tableCs_len]; omega), tableCs_len]
    rcases (by omega : j = l.length * 3 ∨ j = l.length * 3 + 1 ∨ j = l.length * 3 + 2 ∨ l.length * 3 + 3 ≤ j) with e | e | e | e
    · subst e; rw [a]; simp
    · subst e; rw [b]; simp
    · subst e; rw [c]; simp
    · rw [List.getElem?_eq_none (by rw [tableCs_len]; simp; omega), List.getElem?_eq_none (by simp; omega)]

def updV (V : Nat → Value) (n : Nat) (u : Value) : Nat → Value := fun m => if m = n then u else V m
theorem updV_same (V : Nat → Value) (n : Nat) (u : Value) : updV V n u n = u := if_pos rfl
theorem updV_other (V : Nat → Value) {n m : Nat} (u : Value) (h : m ≠ n) : updV V n u m = V m := if_neg h

theorem tableCs_setD (V : Nat → Value) (l : List Tbl) (i : Nat) (x y : Tbl) (hx : l[i]? = some x) (u : Value) (hy : y.avoid = x.avoid) :
    (tableCs V l).set (i * 3 + 1) u = tableCs (updV V (5 + 3 * i) u) (l.set i y) := by
  have hi : i < l.length := (List.getElem?_eq_some_iff.1 hx).1
  apply List.ext_getElem?
  intro j
  by_cases hj : j < l.length * 3
  · rw [tableCs_get (by rw [List.length_set]; exact hj)]
    by_cases e : j = i * 3 + 1
    · subst e
      rw [List.getElem?_set_self (by rw [tableCs_len]; exact hj)]
      unfold tableCH
      rw [show (i * 3 + 1) / 3 = i from by omega, List.getElem?_set_self hi]
      simp [show (i * 3 + 1) % 3 = 1 from by omega, updV_same]
    · rw [List.getElem?_set_ne (by omega), tableCs_get hj]
      unfold tableCH
      by_cases e2 : j / 3 = i
      · rw [e2, hx, List.getElem?_set_self hi]
        simp only [hy]
        rw [updV_other V u (show 6 + 3 * i ≠ 5 + 3 * i by omega)]
        by_cases e3 : j % 3 = 0
        · rw [if_pos e3, if_pos e3]
        · rw [if_neg e3, if_neg e3, if_neg (show ¬ j % 3 = 1 by omega), if_neg (show ¬ j % 3 = 1 by omega)]
      · rw [List.getElem?_set_ne (by omega), updV_other _ _ (by omega), updV_other _ _ (by omega)]
  · rw [List.getElem?_eq_none (by rw [List.length_set, tableCs_len]; omega), List.getElem?_eq_none (by rw [tableCs_len, List.length_set]; omega)]
theorem tableCs_setO (V : Nat → Value) (l : List Tbl) (i : Nat) (x y : Tbl) (hx : l[i]? = some x) (u : Value) (hy : y.avoid = x.avoid) :
    (tableCs V l).set (i * 3 + 2) u = tableCs (updV V (6 + 3 * i) u) (l.set i y) := by
  have hi : i < l.length := (List.getElem?_eq_some_iff.1 hx).1
  apply List.ext_getElem?
  intro j
  by_cases hj : j < l.length * 3
  · rw [tableCs_get (by rw [List.length_set]; exact hj)]
    by_cases e : j = i * 3 + 2
    · subst e
      rw [List.getElem?_set_self (by rw [tableCs_len]; exact hj)]
      unfold tableCH
      rw [show (i * 3 + 2) / 3 = i from by omega, List.getElem?_set_self hi]
      simp [show (i * 3 + 2) % 3 = 2 from by omega, updV_same]
    · rw [List.getElem?_set_ne (by omega), tableCs_get hj]
      unfold tableCH
      by_cases e2 : j / 3 = i
      · rw [e2, hx, List.getElem?_set_self hi]
        simp only [hy]
        rw [updV_other V u (show 5 + 3 * i ≠ 6 + 3 * i by omega)]
        by_cases e3 : j % 3 = 0
        · rw [if_pos e3, if_pos e3]
        · rw [if_neg e3, if_neg e3, if_pos (show j % 3 = 1 by omega), if_pos (show j % 3 = 1 by omega)]
      · rw [List.getElem?_set_ne (by omega), updV_other _ _ (by omega), updV_other _ _ (by omega)]
  · rw [List.getElem?_eq_none (by rw [List.length_set, tableCs_len]; omega), List.getElem?_eq_none (by rw [tableCs_len, List.length_set]; omega)]

/-- The rows of a house, in blocks from lo on, each in a block of its own: items (0), prices (1), stock (2), tables (3), the parts of item i (4 + 3 i), the dishes (5 + 3 i) and the items (6 + 3 i) of table i. -/
structure HseSl (w : World) (lo : Nat) (V : Nat → Value) (h : Hse) : Prop where
  items : w.ownsRow lo 124 3 (V 0) h.items.length (itemCs V h.items)
  parts : ∀ i x, h.items[i]? = some x → PartSl w lo (V (4 + 3 * i)) x.parts
  prices : IntSl w lo (V 1) h.prices
  stock : IntSl w lo (V 2) h.stock
  tables : w.ownsRow lo 115 3 (V 3) h.tables.length (tableCs V h.tables)
  dishes : ∀ i x, h.tables[i]? = some x → OrderSl w lo (V (5 + 3 * i)) x.dishes
  of : ∀ i x, h.tables[i]? = some x → IntSl w lo (V (6 + 3 * i)) x.of
  apart : ∀ m n k, m ≠ n → (V m).ownBlock = some k → (V n).ownBlock ≠ some k
  lt : ∀ m k, (V m).ownBlock = some k → lo ≤ k ∧ k < w.heap.size

theorem ownsRow_slice {w : World} {lo size n : Nat} {e : TypeId} {v : Value} {xs : List Value} (h : w.ownsRow lo e size v n xs) : ∃ A c, v = .slice A n c := by
  rcases h.2 with ⟨hv, hn⟩ | ⟨g, cap, cur, hv, _⟩
  · exact ⟨none, 0, by rw [hv, hn]⟩
  · exact ⟨_, _, hv⟩

/-- What a house's own rows hold. -/
theorem HseSl.at_ {w : World} {lo : Nat} {V : Nat → Value} {h : Hse} (x : HseSl w lo V h) :
    ∃ A a B b C c D d, V 0 = .slice A h.items.length a ∧ V 1 = .slice B h.prices.length b ∧ V 2 = .slice C h.stock.length c ∧ V 3 = .slice D h.tables.length d ∧ HseAt w A B C D h := by
  obtain ⟨B, b, eB, hB, _⟩ := x.prices.form
  obtain ⟨C, c, eC, hC, _⟩ := x.stock.form
  obtain ⟨A, a, eA⟩ := ownsRow_slice x.items
  obtain ⟨D, d, eD⟩ := ownsRow_slice x.tables
  refine ⟨A, a, B, b, C, c, D, d, eA, eB, eC, eD, ⟨fun i y hy => ?_, hB, hC, fun i y hy => ?_⟩⟩
  · have hi : i < h.items.length := (List.getElem?_eq_some_iff.1 hy).1
    have ho := x.items
    obtain ⟨P, p, eP, hP⟩ := (x.parts i y hy).form
    obtain ⟨c0, c1, c2⟩ := itemCs_at (V := V) hy
    rcases ho.2 with ⟨_, hn⟩ | ⟨g, cap, cur, hv, hb, hg, _⟩
    · omega
    · rw [hv] at ho
      obtain rfl : A = some ⟨g, 0, none⟩ := by rw [eA] at hv; injection hv
      refine ⟨g, 0, P, p, rfl, (Array.getElem?_eq_some_iff.1 hg).1, ?_, ?_, ?_, hP⟩
      · rw [Nat.zero_add, World.ownsRow.cellAt ho (i * 3) (by omega)]; exact c0
      · rw [Nat.zero_add, World.ownsRow.cellAt ho (i * 3 + 1) (by omega), c1, eP]
      · rw [Nat.zero_add, World.ownsRow.cellAt ho (i * 3 + 2) (by omega)]; exact c2
  · have hi : i < h.tables.length := (List.getElem?_eq_some_iff.1 hy).1
    have ho := x.tables
    obtain ⟨P, p, eP, hP⟩ := (x.dishes i y hy).form
    obtain ⟨Q, q, eQ, hQ, _⟩ := (x.of i y hy).form
    obtain ⟨c0, c1, c2⟩ := tableCs_at (V := V) hy
    rcases ho.2 with ⟨_, hn⟩ | ⟨g, cap, cur, hv, hb, hg, _⟩
    · omega
    · rw [hv] at ho
      obtain rfl : D = some ⟨g, 0, none⟩ := by rw [eD] at hv; injection hv
      refine ⟨g, 0, P, p, Q, q, rfl, (Array.getElem?_eq_some_iff.1 hg).1, ?_, ?_, ?_, hP, hQ⟩
      · rw [Nat.zero_add, World.ownsRow.cellAt ho (i * 3) (by omega)]; exact c0
      · rw [Nat.zero_add, World.ownsRow.cellAt ho (i * 3 + 1) (by omega), c1, eP]
      · rw [Nat.zero_add, World.ownsRow.cellAt ho (i * 3 + 2) (by omega), c2, eQ]

/-- Where all rows of a house are as they were, the house is as it was. -/
theorem HseSl.kept {w w' : World} {lo : Nat} {V : Nat → Value} {h : Hse} (x : HseSl w lo V h) (hs : w.heap.size ≤ w'.heap.size) (hk : ∀ m k, (V m).ownBlock = some k → w'.heap[k]? = w.heap[k]?) : HseSl w' lo V h :=
  ⟨ownsRow_keepH x.items (hk 0), fun i y hy => ownsRow_keepH (x.parts i y hy) (hk _), ownsRow_keepH x.prices (hk 1), ownsRow_keepH x.stock (hk 2), ownsRow_keepH x.tables (hk 3),
    fun i y hy => ownsRow_keepH (x.dishes i y hy) (hk _), fun i y hy => ownsRow_keepH (x.of i y hy) (hk _), x.apart, fun m k h => ⟨(x.lt m k h).1, Nat.lt_of_lt_of_le (x.lt m k h).2 hs⟩⟩
theorem HseSl.below {w w' : World} {lo : Nat} {V : Nat → Value} {h : Hse} (x : HseSl w lo V h) (hb : Below w.heap.size w w') : HseSl w' lo V h :=
  x.kept hb.size (fun m k hm => hb.block k (x.lt m k hm).2)
/-- A store into a block that is none of the house's rows. -/
theorem HseSl.far {w : World} {lo : Nat} {V : Nat → Value} {h : Hse} (x : HseSl w lo V h) {a : Addr} (ha : ∀ m, (V m).ownBlock ≠ some a.block) (u : Value) : HseSl (w.setCell a u) lo V h :=
  x.kept (by simp) (fun m k hm => heap_setCell_other w a k u (fun e => ha m (by rw [hm, e])))
/-- Of the rows, all but r are as they were. -/
theorem HseSl.others {w w' : World} {lo : Nat} {V : Nat → Value} {h : Hse} (x : HseSl w lo V h) {r : Nat} (hg : w.grownBy w' (V r).ownBlock) {m : Nat} (hm : m ≠ r) : ∀ k, (V m).ownBlock = some k → w'.heap[k]? = w.heap[k]? :=
  fun k hk => hg.block k (x.lt m k hk).2 (fun e => x.apart m r k hm hk e.symm)
theorem HseSl.apart_upd {w : World} {lo : Nat} {V : Nat → Value} {h : Hse} (x : HseSl w lo V h) {r : Nat} {u : Value} (hu : ∀ k, u.ownBlock = some k → (V r).ownBlock = some k ∨ w.heap.size ≤ k) :
    ∀ m n k, m ≠ n → (updV V r u m).ownBlock = some k → (updV V r u n).ownBlock ≠ some k := by
  intro m n k hmn hm hn
  by_cases e1 : m = r
  · subst e1
    rw [updV_same] at hm
    rw [updV_other _ _ (fun e => hmn e.symm)] at hn
    rcases hu k hm with h1 | h1
    · exact x.apart m n k hmn h1 hn
    · have := (x.lt n k hn).2; omega
  · rw [updV_other _ _ e1] at hm
    by_cases e2 : n = r
    · subst e2
      rw [updV_same] at hn
      rcases hu k hn with h1 | h1
      · exact x.apart m n k hmn hm h1
      · have := (x.lt m k hm).2; omega
    · rw [updV_other _ _ e2] at hn
      exact x.apart m n k hmn hm hn
theorem HseSl.lt_upd {w w' : World} {lo : Nat} {V : Nat → Value} {h : Hse} (x : HseSl w lo V h) {r : Nat} {u : Value} (hs : w.heap.size ≤ w'.heap.size) (hu : ∀ k, u.ownBlock = some k → lo ≤ k ∧ k < w'.heap.size) :
    ∀ m k, (updV V r u m).ownBlock = some k → lo ≤ k ∧ k < w'.heap.size := by
  intro m k hm
  by_cases e : m = r
  · subst e; rw [updV_same] at hm; exact hu k hm
  · rw [updV_other _ _ e] at hm; exact ⟨(x.lt m k hm).1, Nat.lt_of_lt_of_le (x.lt m k hm).2 hs⟩

/-- A number is stored into the stock. -/
theorem HseSl.putStock {w : World} {lo g n c : Nat} {V : Nat → Value} {h : Hse} (x : HseSl w lo V h) (hv : V 2 = .slice (some ⟨g, 0, none⟩) n c) (j : Nat) (y : Int) :
    HseSl (w.setCell ⟨g, j, none⟩ (.int .i64 y)) lo V { h with stock := h.stock.set j y } := by
  have hs := x.stock
  have ho := fun m (hm : m ≠ 2) => x.others (w' := w.setCell ⟨g, j, none⟩ (.int .i64 y)) (r := 2) (by rw [hv]; rw [hv] at hs; exact IntSl.grownSet hs j y) (m := m) hm
  refine ⟨ownsRow_keepH x.items (ho 0 (by omega)), fun i y hy => ownsRow_keepH (x.parts i y hy) (ho _ (by omega)), ownsRow_keepH x.prices (ho 1 (by omega)), ?_, ownsRow_keepH x.tables (ho 3 (by omega)),
    fun i y hy => ownsRow_keepH (x.dishes i y hy) (ho _ (by omega)), fun i y hy => ownsRow_keepH (x.of i y hy) (ho _ (by omega)), x.apart, fun m k h => by rw [World.size_setCell]; exact x.lt m k h⟩
  rw [hv] at hs ⊢
  exact IntSl.store hs j y
/-- The whole stock is another row. -/
theorem HseSl.newStock {w w' : World} {lo : Nat} {V : Nat → Value} {h : Hse} (x : HseSl w lo V h) (hb : Below w.heap.size w w') (hlo : lo ≤ w.heap.size) {u : Value} {ys : List Int} (hu : IntSl w' w.heap.size u ys) :
    HseSl w' lo (updV V 2 u) { h with stock := ys } := by
  have hx := x.below hb
  have hl : ∀ k, u.ownBlock = some k → w.heap.size ≤ k ∧ k < w'.heap.size := World.ownsRow.lt hu
  refine ⟨?_, fun i y hy => ?_, ?_, ?_, ?_, fun i y hy => ?_, fun i y hy => ?_, x.apart_upd (fun k hk => .inr (hl k hk).1), x.lt_upd hb.size (fun k hk => ⟨Nat.le_trans hlo (hl k hk).1, (hl k hk).2⟩)⟩
  · rw [updV_other _ _ (by omega), ← itemCs_congr (V := V) (fun i _ => (updV_other V u (by omega)).symm)]; exact hx.items
  · rw [updV_other _ _ (by omega)]; exact hx.parts i y hy
  · rw [updV_other _ _ (by omega)]; exact hx.prices
  · rw [updV_same]; exact IntSl.mono hu hlo
  · rw [updV_other _ _ (by omega), ← tableCs_congr (V := V) (fun i _ => ⟨(updV_other V u (by omega)).symm, (updV_other V u (by omega)).symm⟩)]; exact hx.tables
  · rw [updV_other _ _ (by omega)]; exact hx.dishes i y hy
  · rw [updV_other _ _ (by omega)]; exact hx.of i y hy

/-- The dishes of a table are another row, or the same one in a later world, and its place is stored. -/
theorem HseSl.putDishes {w w2 : World} {lo g n c t : Nat} {V : Nat → Value} {h : Hse} {x : Tbl} (H : HseSl w lo V h) (hx : h.tables[t]? = some x) (hv : V 3 = .slice (some ⟨g, 0, none⟩) n c) (hg : w.grownBy w2 (V (5 + 3 * t)).ownBlock) {u : Value} {ds : List Order} (hu : OrderSl w2 lo u ds)
    (hub : ∀ k, u.ownBlock = some k → (V (5 + 3 * t)).ownBlock = some k ∨ w.heap.size ≤ k) :
    HseSl (w2.setCell ⟨g, t * 3 + 1, none⟩ u) lo (updV V (5 + 3 * t) u) { h with tables := h.tables.set t ⟨x.avoid, ds, x.of⟩ } := by
  have ht : t < h.tables.length := (List.getElem?_eq_some_iff.1 hx).1
  have gl := (H.lt 3 g (by rw [hv]; rfl)).2
  have hT2 : w2.ownsRow lo 115 3 (V 3) h.tables.length (tableCs V h.tables) := ownsRow_keepH H.tables (H.others hg (by omega))
  have hug : ∀ k, u.ownBlock = some k → k ≠ g := fun k hk e => by
    rcases hub k hk with h1 | h1
    · exact H.apart (5 + 3 * t) 3 k (by omega) h1 (by rw [hv, e]; rfl)
    · omega
  have hn : n = h.tables.length := by obtain ⟨A, a, e⟩ := ownsRow_slice H.tables; rw [hv] at e; injection e
  have hst : (w2.setCell ⟨g, t * 3 + 1, none⟩ u).ownsRow lo 115 3 (V 3) h.tables.length ((tableCs V h.tables).set (t * 3 + 1) u) ∧ w2.grownBy (w2.setCell ⟨g, t * 3 + 1, none⟩ u) (some g) := by
    rw [hv, hn] at hT2 ⊢
    exact World.ownsRow.stored hT2 (t * 3 + 1) u
  have ho : ∀ m, m ≠ 5 + 3 * t → m ≠ 3 → ∀ k, (V m).ownBlock = some k → (w2.setCell ⟨g, t * 3 + 1, none⟩ u).heap[k]? = w.heap[k]? := fun m hm h3 k hk =>
    (heap_setCell_other w2 ⟨g, t * 3 + 1, none⟩ k u (fun e => H.apart m 3 k h3 hk (by rw [hv, e]; rfl))).trans (H.others hg hm k hk)
  have hul : ∀ k, u.ownBlock = some k → lo ≤ k ∧ k < (w2.setCell ⟨g, t * 3 + 1, none⟩ u).heap.size := fun k hk => by rw [World.size_setCell]; exact World.ownsRow.lt hu k hk
  refine ⟨?_, fun i y hy => ?_, ?_, ?_, ?_, fun i y hy => ?_, fun i y hy => ?_, H.apart_upd hub, H.lt_upd (by rw [World.size_setCell]; exact hg.size) hul⟩
  · rw [updV_other _ _ (by omega), ← itemCs_congr (V := V) (fun i _ => (updV_other V u (by omega)).symm)]; exact ownsRow_keepH H.items (ho 0 (by omega) (by omega))
  · rw [updV_other _ _ (by omega)]; exact ownsRow_keepH (H.parts i y hy) (ho _ (by omega) (by omega))
  · rw [updV_other _ _ (by omega)]; exact ownsRow_keepH H.prices (ho 1 (by omega) (by omega))
  · rw [updV_other _ _ (by omega)]; exact ownsRow_keepH H.stock (ho 2 (by omega) (by omega))
  · rw [updV_other _ _ (by omega), List.length_set, ← tableCs_setD V h.tables t x ⟨x.avoid, ds, x.of⟩ hx u rfl]; exact hst.1
  · show OrderSl (w2.setCell ⟨g, t * 3 + 1, none⟩ u) lo _ _
    by_cases e : i = t
    · subst e
      have hy : (h.tables.set i ⟨x.avoid, ds, x.of⟩)[i]? = some y := hy
      rw [List.getElem?_set_self ht] at hy
      injection hy with hy
      subst hy
      rw [updV_same]
      exact ownsRow_keepH hu (fun k hk => heap_setCell_other w2 ⟨g, i * 3 + 1, none⟩ k u (fun e => hug k hk e))
    · have hy : (h.tables.set t ⟨x.avoid, ds, x.of⟩)[i]? = some y := hy
      rw [List.getElem?_set_ne (fun e' => e e'.symm)] at hy
      rw [updV_other _ _ (by omega)]
      exact ownsRow_keepH (H.dishes i y hy) (ho _ (by omega) (by omega))
  · show IntSl (w2.setCell ⟨g, t * 3 + 1, none⟩ u) lo _ _
    rw [updV_other _ _ (by omega)]
    by_cases e : i = t
    · subst e
      have hy : (h.tables.set i ⟨x.avoid, ds, x.of⟩)[i]? = some y := hy
      rw [List.getElem?_set_self ht] at hy
      injection hy with hy
      subst hy
      exact ownsRow_keepH (H.of i x hx) (ho _ (by omega) (by omega))
    · have hy : (h.tables.set t ⟨x.avoid, ds, x.of⟩)[i]? = some y := hy
      rw [List.getElem?_set_ne (fun e' => e e'.symm)] at hy
      exact ownsRow_keepH (H.of i y hy) (ho _ (by omega) (by omega))
/-- The items of a table's dishes are another row, or the same one in a later world, and its place is stored. -/
theorem HseSl.putOf {w w2 : World} {lo g n c t : Nat} {V : Nat → Value} {h : Hse} {x : Tbl} (H : HseSl w lo V h) (hx : h.tables[t]? = some x) (hv : V 3 = .slice (some ⟨g, 0, none⟩) n c) (hg : w.grownBy w2 (V (6 + 3 * t)).ownBlock) {u : Value} {ds : List Int} (hu : IntSl w2 lo u ds)
    (hub : ∀ k, u.ownBlock = some k → (V (6 + 3 * t)).ownBlock = some k ∨ w.heap.size ≤ k) :
    HseSl (w2.setCell ⟨g, t * 3 + 2, none⟩ u) lo (updV V (6 + 3 * t) u) { h with tables := h.tables.set t ⟨x.avoid, x.dishes, ds⟩ } := by
  have ht : t < h.tables.length := (List.getElem?_eq_some_iff.1 hx).1
  have gl := (H.lt 3 g (by rw [hv]; rfl)).2
  have hT2 : w2.ownsRow lo 115 3 (V 3) h.tables.length (tableCs V h.tables) := ownsRow_keepH H.tables (H.others hg (by omega))
  have hug : ∀ k, u.ownBlock = some k → k ≠ g := fun k hk e => by
    rcases hub k hk with h1 | h1
    · exact H.apart (6 + 3 * t) 3 k (by omega) h1 (by rw [hv, e]; rfl)
    · omega
  have hn : n = h.tables.length := by obtain ⟨A, a, e⟩ := ownsRow_slice H.tables; rw [hv] at e; injection e
  have hst : (w2.setCell ⟨g, t * 3 + 2, none⟩ u).ownsRow lo 115 3 (V 3) h.tables.length ((tableCs V h.tables).set (t * 3 + 2) u) ∧ w2.grownBy (w2.setCell ⟨g, t * 3 + 2, none⟩ u) (some g) := by
    rw [hv, hn] at hT2 ⊢
    exact World.ownsRow.stored hT2 (t * 3 + 2) u
  have ho : ∀ m, m ≠ 6 + 3 * t → m ≠ 3 → ∀ k, (V m).ownBlock = some k → (w2.setCell ⟨g, t * 3 + 2, none⟩ u).heap[k]? = w.heap[k]? := fun m hm h3 k hk =>
    (heap_setCell_other w2 ⟨g, t * 3 + 2, none⟩ k u (fun e => H.apart m 3 k h3 hk (by rw [hv, e]; rfl))).trans (H.others hg hm k hk)
  have hul : ∀ k, u.ownBlock = some k → lo ≤ k ∧ k < (w2.setCell ⟨g, t * 3 + 2, none⟩ u).heap.size := fun k hk => by rw [World.size_setCell]; exact World.ownsRow.lt hu k hk
  refine ⟨?_, fun i y hy => ?_, ?_, ?_, ?_, fun i y hy => ?_, fun i y hy => ?_, H.apart_upd hub, H.lt_upd (by rw [World.size_setCell]; exact hg.size) hul⟩
  · rw [updV_other _ _ (by omega), ← itemCs_congr (V := V) (fun i _ => (updV_other V u (by omega)).symm)]; exact ownsRow_keepH H.items (ho 0 (by omega) (by omega))
  · rw [updV_other _ _ (by omega)]; exact ownsRow_keepH (H.parts i y hy) (ho _ (by omega) (by omega))
  · rw [updV_other _ _ (by omega)]; exact ownsRow_keepH H.prices (ho 1 (by omega) (by omega))
  · rw [updV_other _ _ (by omega)]; exact ownsRow_keepH H.stock (ho 2 (by omega) (by omega))
  · rw [updV_other _ _ (by omega), List.length_set, ← tableCs_setO V h.tables t x ⟨x.avoid, x.dishes, ds⟩ hx u rfl]; exact hst.1
  · show OrderSl (w2.setCell ⟨g, t * 3 + 2, none⟩ u) lo _ _
    rw [updV_other _ _ (by omega)]
    by_cases e : i = t
    · subst e
      have hy : (h.tables.set i ⟨x.avoid, x.dishes, ds⟩)[i]? = some y := hy
      rw [List.getElem?_set_self ht] at hy
      injection hy with hy
      subst hy
      exact ownsRow_keepH (H.dishes i x hx) (ho _ (by omega) (by omega))
    · have hy : (h.tables.set t ⟨x.avoid, x.dishes, ds⟩)[i]? = some y := hy
      rw [List.getElem?_set_ne (fun e' => e e'.symm)] at hy
      exact ownsRow_keepH (H.dishes i y hy) (ho _ (by omega) (by omega))
  · show IntSl (w2.setCell ⟨g, t * 3 + 2, none⟩ u) lo _ _
    by_cases e : i = t
    · subst e
      have hy : (h.tables.set i ⟨x.avoid, x.dishes, ds⟩)[i]? = some y := hy
      rw [List.getElem?_set_self ht] at hy
      injection hy with hy
      subst hy
      rw [updV_same]
      exact ownsRow_keepH hu (fun k hk => heap_setCell_other w2 ⟨g, i * 3 + 2, none⟩ k u (fun e => hug k hk e))
    · have hy : (h.tables.set t ⟨x.avoid, x.dishes, ds⟩)[i]? = some y := hy
      rw [List.getElem?_set_ne (fun e' => e e'.symm)] at hy
      rw [updV_other _ _ (by omega)]
      exact ownsRow_keepH (H.of i y hy) (ho _ (by omega) (by omega))
end Go.Proofs.YtmepnilnlpoodaaDoor

namespace Go.Proofs.YtmepnilnlpoodaaDoor
open Go.RowKit Go.ChangeShapes Go.WideShapes Go.ChangeAt Go.Deep

theorem HseSl.cashH {w : World} {lo : Nat} {V : Nat → Value} {h : Hse} (H : HseSl w lo V h) (c : Int) : HseSl w lo V { h with cash := c } := ⟨H.items, H.parts, H.prices, H.stock, H.tables, H.dishes, H.of, H.apart, H.lt⟩

/-- A whole new row of items. -/
theorem HseSl.newItems {w w' : World} {lo : Nat} {V : Nat → Value} {h : Hse} (H : HseSl w lo V h) (hb : Below w.heap.size w w') (hlo : lo ≤ w.heap.size) {u : Value} {l : List Item} (hu : w'.ownsRow w.heap.size 124 3 u l.length (itemCs V l)) (hp : ∀ i x, l[i]? = some x → PartSl w' lo (V (4 + 3 * i)) x.parts) :
    HseSl w' lo (updV V 0 u) { h with items := l } := by
  have hx := H.below hb
  have hl : ∀ k, u.ownBlock = some k → w.heap.size ≤ k ∧ k < w'.heap.size := World.ownsRow.lt hu
  refine ⟨?_, fun i y hy => ?_, ?_, ?_, ?_, fun i y hy => ?_, fun i y hy => ?_, H.apart_upd (fun k hk => .inr (hl k hk).1), H.lt_upd hb.size (fun k hk => ⟨Nat.le_trans hlo (hl k hk).1, (hl k hk).2⟩)⟩
  · rw [updV_same, ← itemCs_congr (V := V) (fun i _ => (updV_other V u (by omega)).symm)]; exact ownsRow_monoH hu hlo
  · rw [updV_other _ _ (by omega)]; exact hp i y hy
  · rw [updV_other _ _ (by omega)]; exact hx.prices
  · rw [updV_other _ _ (by omega)]; exact hx.stock
  · rw [updV_other _ _ (by omega), ← tableCs_congr (V := V) (fun i _ => ⟨(updV_other V u (by omega)).symm, (updV_other V u (by omega)).symm⟩)]; exact hx.tables
  · rw [updV_other _ _ (by omega)]; exact hx.dishes i y hy
  · rw [updV_other _ _ (by omega)]; exact hx.of i y hy
/-- A whole new row of tables. -/
theorem HseSl.newTables {w w' : World} {lo : Nat} {V : Nat → Value} {h : Hse} (H : HseSl w lo V h) (hb : Below w.heap.size w w') (hlo : lo ≤ w.heap.size) {u : Value} {l : List Tbl} (hu : w'.ownsRow w.heap.size 115 3 u l.length (tableCs V l))
    (hp : ∀ i x, l[i]? = some x → OrderSl w' lo (V (5 + 3 * i)) x.dishes) (hq : ∀ i x, l[i]? = some x → IntSl w' lo (V (6 + 3 * i)) x.of) :
    HseSl w' lo (updV V 3 u) { h with tables := l } := by
  have hx := H.below hb
  have hl : ∀ k, u.ownBlock = some k → w.heap.size ≤ k ∧ k < w'.heap.size := World.ownsRow.lt hu
  refine ⟨?_, fun i y hy => ?_, ?_, ?_, ?_, fun i y hy => ?_, fun i y hy => ?_, H.apart_upd (fun k hk => .inr (hl k hk).1), H.lt_upd hb.size (fun k hk => ⟨Nat.le_trans hlo (hl k hk).1, (hl k hk).2⟩)⟩
  · rw [updV_other _ _ (by omega), ← itemCs_congr (V := V) (fun i _ => (updV_other V u (by omega)).symm)]; exact hx.items
  · rw [updV_other _ _ (by omega)]; exact hx.parts i y hy
  · rw [updV_other _ _ (by omega)]; exact hx.prices
  · rw [updV_other _ _ (by omega)]; exact hx.stock
  · rw [updV_same, ← tableCs_congr (V := V) (fun i _ => ⟨(updV_other V u (by omega)).symm, (updV_other V u (by omega)).symm⟩)]; exact ownsRow_monoH hu hlo
  · rw [updV_other _ _ (by omega)]; exact hp i y hy
  · rw [updV_other _ _ (by omega)]; exact hq i y hy

theorem range_rep {n : Nat} {α : Type} {x y : α} {i : Nat} (h : (List.replicate n x)[i]? = some y) : y = x := by
  rw [List.getElem?_replicate] at h
  split at h
  · injection h with h; exact h.symm
  · cases h
/-- Items of nothing. -/
def noItem : Item := ⟨0, [], 0⟩
def noTbl : Tbl := ⟨0, [], []⟩
theorem itemCs_made {V : Nat → Value} {n : Nat} (h : ∀ i, V (4 + 3 * i) = .slice none 0 0) : itemCs V (List.replicate n noItem) = (madeCells #[.int .i64 0, .slice none 0 0, .int .i64 0] (n * 3)).toList := by
  apply List.ext_getElem?
  intro j
  by_cases hj : j < n * 3
  · rw [itemCs_get (by simpa using hj), Array.getElem?_toList]
    unfold itemCH
    rw [List.getElem?_replicate, if_pos (show j / 3 < n by omega)]
    have : j % 3 = 0 ∨ j % 3 = 1 ∨ j % 3 = 2 := by omega
    rcases this with e | e | e <;> simp [madeCells, noItem, hj, e, h]
  · rw [List.getElem?_eq_none (by rw [itemCs_len]; simp; omega), List.getElem?_eq_none (by simp [madeCells]; omega)]
theorem tableCs_made {V : Nat → Value} {n : Nat} (h : ∀ i, V (5 + 3 * i) = .slice none 0 0 ∧ V (6 + 3 * i) = .slice none 0 0) : tableCs V (List.replicate n noTbl) = (madeCells #[.int .i64 0, .slice none 0 0, .slice none 0 0] (n * 3)).toList := by
  apply List.ext_getElem?
  intro j
  by_cases hj : j < n * 3
  · rw [tableCs_get (by simpa using hj), Array.getElem?_toList]
    unfold tableCH
    rw [List.getElem?_replicate, if_pos (show j / 3 < n by omega)]
    have : j % 3 = 0 ∨ j % 3 = 1 ∨ j % 3 = 2 := by omega
    rcases this with e | e | e <;> simp [madeCells, noTbl, hj, e, h]
  · rw [List.getElem?_eq_none (by rw [tableCs_len]; simp; omega), List.getElem?_eq_none (by simp [madeCells]; omega)]
theorem HseSl.madeItems {w : World} {lo : Nat} {V : Nat → Value} {h : Hse} (H : HseSl w lo V h) (hlo : lo ≤ w.heap.size) (n : Nat) (hn : n ≤ 1048576) (hV : ∀ i, V (4 + 3 * i) = .slice none 0 0) :
    HseSl (w.alloc (.cells (madeCells #[.int .i64 0, .slice none 0 0, .int .i64 0] (n * 3)) 124)) lo (updV V 0 (.slice (some ⟨w.heap.size, 0, none⟩) n n)) { h with items := List.replicate n noItem } := by
  refine H.newItems ((Below.refl _ _).alloc (Nat.le_refl _) _) hlo (l := List.replicate n noItem) ?_ (fun i x hx => ?_)
  · rw [itemCs_made hV, List.length_replicate]
    exact World.ownsRow_lit w _ n (Nat.le_refl _) (by unfold maxLen; omega) (by simp [madeCells])
  · rw [hV, range_rep hx]
    exact World.ownsRow_nil _ _ _ _
theorem HseSl.madeTables {w : World} {lo : Nat} {V : Nat → Value} {h : Hse} (H : HseSl w lo V h) (hlo : lo ≤ w.heap.size) (n : Nat) (hn : n ≤ 1048576) (hV : ∀ i, V (5 + 3 * i) = .slice none 0 0 ∧ V (6 + 3 * i) = .slice none 0 0) :
    HseSl (w.alloc (.cells (madeCells #[.int .i64 0, .slice none 0 0, .slice none 0 0] (n * 3)) 115)) lo (updV V 3 (.slice (some ⟨w.heap.size, 0, none⟩) n n)) { h with tables := List.replicate n noTbl } := by
  refine H.newTables ((Below.refl _ _).alloc (Nat.le_refl _) _) hlo (l := List.replicate n noTbl) ?_ (fun i x hx => ?_) (fun i x hx => ?_)
  · rw [tableCs_made hV, List.length_replicate]
    exact World.ownsRow_lit w _ n (Nat.le_refl _) (by unfold maxLen; omega) (by simp [madeCells])
  · rw [(hV i).1, range_rep hx]
    exact World.ownsRow_nil _ _ _ _
  · rw [(hV i).2, range_rep hx]
    exact World.ownsRow_nil _ _ _ _

theorem itemCs_set3 (V : Nat → Value) (l : List Item) (i : Nat) (hi : i < l.length) (y : Item) (u : Value) :
    (((itemCs V l).set (i * 3) (.int .i64 y.yield)).set (i * 3 + 1) u).set (i * 3 + 2) (.int .i64 y.marks) = itemCs (updV V (4 + 3 * i) u) (l.set i y) := by
  apply List.ext_getElem?
  intro j
  by_cases hj : j < l.length * 3
  · rw [itemCs_get (by rw [List.length_set]; exact hj)]
    by_cases e2 : j / 3 = i
    · unfold itemCH
      rw [e2, List.getElem?_set_self hi]
      rcases (by omega : j = i * 3 ∨ j = i * 3 + 1 ∨ j = i * 3 + 2) with e | e | e
      · subst e
        rw [List.getElem?_set_ne (by omega), List.getElem?_set_ne (by omega), List.getElem?_set_self (by rw [itemCs_len]; exact hj)]
        simp
      · subst e
        rw [List.getElem?_set_ne (by omega), List.getElem?_set_self (by rw [List.length_set, itemCs_len]; exact hj)]
        simp [show (i * 3 + 1) % 3 = 1 from by omega, updV_same]
      · subst e
        rw [List.getElem?_set_self (by rw [List.length_set, List.length_set, itemCs_len]; exact hj)]
        simp [show (i * 3 + 2) % 3 = 2 from by omega]
    · rw [List.getElem?_set_ne (by omega), List.getElem?_set_ne (by omega), List.getElem?_set_ne (by omega), itemCs_get hj]
      unfold itemCH
      rw [List.getElem?_set_ne (by omega), updV_other _ _ (by omega)]
  · rw [List.getElem?_eq_none (by rw [List.length_set, List.length_set, List.length_set, itemCs_len]; omega), List.getElem?_eq_none (by rw [itemCs_len, List.length_set]; omega)]
theorem tableCs_set3 (V : Nat → Value) (l : List Tbl) (i : Nat) (hi : i < l.length) (y : Tbl) (u v : Value) :
    (((tableCs V l).set (i * 3) (.int .i64 y.avoid)).set (i * 3 + 1) u).set (i * 3 + 2) v = tableCs (updV (updV V (5 + 3 * i) u) (6 + 3 * i) v) (l.set i y) := by
  apply List.ext_getElem?
  intro j
  by_cases hj : j < l.length * 3
  · rw [tableCs_get (by rw [List.length_set]; exact hj)]
    by_cases e2 : j / 3 = i
    · unfold tableCH
      rw [e2, List.getElem?_set_self hi]
      rcases (by omega : j = i * 3 ∨ j = i * 3 + 1 ∨ j = i * 3 + 2) with e | e | e
      · subst e
        rw [List.getElem?_set_ne (by omega), List.getElem?_set_ne (by omega), List.getElem?_set_self (by rw [tableCs_len]; exact hj)]
        simp
      · subst e
        rw [List.getElem?_set_ne (by omega), List.getElem?_set_self (by rw [List.length_set, tableCs_len]; exact hj)]
        simp only [show (i * 3 + 1) % 3 = 1 from by omega]
        rw [updV_other _ _ (show 5 + 3 * i ≠ 6 + 3 * i by omega), updV_same]
        simp
      · subst e
        rw [List.getElem?_set_self (by rw [List.length_set, List.length_set, tableCs_len]; exact hj)]
        simp [show (i * 3 + 2) % 3 = 2 from by omega, updV_same]
    · rw [List.getElem?_set_ne (by omega), List.getElem?_set_ne (by omega), List.getElem?_set_ne (by omega), tableCs_get hj]
      unfold tableCH
      rw [List.getElem?_set_ne (by omega), updV_other _ _ (by omega), updV_other _ _ (by omega), updV_other _ _ (by omega), updV_other _ _ (by omega)]
  · rw [List.getElem?_eq_none (by rw [List.length_set, List.length_set, List.length_set, tableCs_len]; omega), List.getElem?_eq_none (by rw [tableCs_len, List.length_set]; omega)]

/-- An item is put into the row; its parts are a row that is new. -/
theorem HseSl.putItem {w w2 : World} {lo g n c i : Nat} {V : Nat → Value} {h : Hse} (H : HseSl w lo V h) (hi : i < h.items.length) (hv : V 0 = .slice (some ⟨g, 0, none⟩) n c) (hb : Below w.heap.size w w2) (hlo : lo ≤ w.heap.size) (y : Item) {u : Value} (hu : PartSl w2 w.heap.size u y.parts) :
    HseSl (((w2.setCell ⟨g, i * 3, none⟩ (.int .i64 y.yield)).setCell ⟨g, i * 3 + 1, none⟩ u).setCell ⟨g, i * 3 + 2, none⟩ (.int .i64 y.marks)) lo (updV V (4 + 3 * i) u) { h with items := h.items.set i y } := by
  have gl := (H.lt 0 g (by rw [hv]; rfl)).2
  have hT2 : w2.ownsRow lo 124 3 (V 0) h.items.length (itemCs V h.items) := ownsRow_keepH H.items (fun k hk => hb.block k (H.lt 0 k hk).2)
  have hl : ∀ k, u.ownBlock = some k → w.heap.size ≤ k ∧ k < w2.heap.size := World.ownsRow.lt hu
  have hn : n = h.items.length := by obtain ⟨A, a, e⟩ := ownsRow_slice H.items; rw [hv] at e; injection e
  have hst : ∀ w3, w3 = ((w2.setCell ⟨g, i * 3, none⟩ (.int .i64 y.yield)).setCell ⟨g, i * 3 + 1, none⟩ u).setCell ⟨g, i * 3 + 2, none⟩ (.int .i64 y.marks) → w3.ownsRow lo 124 3 (V 0) h.items.length ((((itemCs V h.items).set (i * 3) (.int .i64 y.yield)).set (i * 3 + 1) u).set (i * 3 + 2) (.int .i64 y.marks)) ∧ w3.heap.size = w2.heap.size ∧ ∀ k, k ≠ g → w3.heap[k]? = w2.heap[k]? := by
    intro w3 e
    subst e
    rw [hv, hn] at hT2 ⊢
    have s1 := World.ownsRow.stored hT2 (i * 3) (.int .i64 y.yield)
    have s2 := World.ownsRow.stored s1.1 (i * 3 + 1) u
    have s3 := World.ownsRow.stored s2.1 (i * 3 + 2) (.int .i64 y.marks)
    refine ⟨s3.1, by simp, fun k hk => ?_⟩
    rw [heap_setCell_other _ ⟨g, i * 3 + 2, none⟩ k _ hk, heap_setCell_other _ ⟨g, i * 3 + 1, none⟩ k _ hk, heap_setCell_other _ ⟨g, i * 3, none⟩ k _ hk]
  obtain ⟨w3, e3⟩ : ∃ w3, ((w2.setCell ⟨g, i * 3, none⟩ (.int .i64 y.yield)).setCell ⟨g, i * 3 + 1, none⟩ u).setCell ⟨g, i * 3 + 2, none⟩ (.int .i64 y.marks) = w3 := ⟨_, rfl⟩
  obtain ⟨h1, h2, h3⟩ := hst w3 e3.symm
  rw [e3]
  have ho : ∀ m, m ≠ 0 → ∀ k, (V m).ownBlock = some k → w3.heap[k]? = w.heap[k]? := fun m hm k hk =>
    (h3 k (fun e => H.apart m 0 k hm hk (by rw [hv, e]; rfl))).trans (hb.block k (H.lt m k hk).2)
  refine ⟨?_, fun j z hz => ?_, ?_, ?_, ?_, fun j z hz => ?_, fun j z hz => ?_, H.apart_upd (fun k hk => .inr (hl k hk).1), H.lt_upd (by rw [h2]; exact hb.size) (fun k hk => ⟨Nat.le_trans hlo (hl k hk).1, by rw [h2]; exact (hl k hk).2⟩)⟩
  · rw [updV_other _ _ (by omega), List.length_set, ← itemCs_set3 V h.items i hi y u]; exact h1
  · have hz : (h.items.set i y)[j]? = some z := hz
    by_cases e : j = i
    · subst e
      rw [List.getElem?_set_self hi] at hz
      injection hz with hz
      subst hz
      rw [updV_same]
      exact ownsRow_monoH (ownsRow_keepH hu (fun k hk => h3 k (by have := (hl k hk).1; omega))) hlo
    · rw [List.getElem?_set_ne (fun e' => e e'.symm)] at hz
      rw [updV_other _ _ (by omega)]
      exact ownsRow_keepH (H.parts j z hz) (ho _ (by omega))
  · rw [updV_other _ _ (by omega)]; exact ownsRow_keepH H.prices (ho 1 (by omega))
  · rw [updV_other _ _ (by omega)]; exact ownsRow_keepH H.stock (ho 2 (by omega))
  · rw [updV_other _ _ (by omega), ← tableCs_congr (V := V) (fun i _ => ⟨(updV_other V u (by omega)).symm, (updV_other V u (by omega)).symm⟩)]; exact ownsRow_keepH H.tables (ho 3 (by omega))
  · rw [updV_other _ _ (by omega)]; exact ownsRow_keepH (H.dishes j z hz) (ho _ (by omega))
  · rw [updV_other _ _ (by omega)]; exact ownsRow_keepH (H.of j z hz) (ho _ (by omega))

theorem rows_diff {w : World} {lo lo' size size' n n' : Nat} {e e' : TypeId} {u v : Value} {xs ys : List Value} (h : w.ownsRow lo e size u n xs) (h' : w.ownsRow lo' e' size' v n' ys) (hne : e ≠ e') {k : Nat} (hu : u.ownBlock = some k) : v.ownBlock ≠ some k := by
  intro hv
  rcases h.2 with ⟨rfl, _⟩ | ⟨g, cap, cur, rfl, _, hg, _⟩
  · cases hu
  · rcases h'.2 with ⟨rfl, _⟩ | ⟨g', cap', cur', rfl, _, hg', _⟩
    · cases hv
    · injection hu with hu
      injection hv with hv
      have hu : g = k := hu
      have hv : g' = k := hv
      subst hu
      subst hv
      rw [hg] at hg'
      injection hg' with hg'
      injection hg' with _ ht _
      exact hne ht
/-- A table is put into the row; its rows are new. -/
theorem HseSl.putTable {w w2 : World} {lo g n c i : Nat} {V : Nat → Value} {h : Hse} (H : HseSl w lo V h) (hi : i < h.tables.length) (hv : V 3 = .slice (some ⟨g, 0, none⟩) n c) (hb : Below w.heap.size w w2) (hlo : lo ≤ w.heap.size) (y : Tbl) {u v : Value} (hu : OrderSl w2 w.heap.size u y.dishes) (hu2 : IntSl w2 w.heap.size v y.of) :
    HseSl (((w2.setCell ⟨g, i * 3, none⟩ (.int .i64 y.avoid)).setCell ⟨g, i * 3 + 1, none⟩ u).setCell ⟨g, i * 3 + 2, none⟩ v) lo (updV (updV V (5 + 3 * i) u) (6 + 3 * i) v) { h with tables := h.tables.set i y } := by
  have gl := (H.lt 3 g (by rw [hv]; rfl)).2
  have hs1 := hb.size
  have hT2 : w2.ownsRow lo 115 3 (V 3) h.tables.length (tableCs V h.tables) := ownsRow_keepH H.tables (fun k hk => hb.block k (H.lt 3 k hk).2)
  have hl : ∀ k, u.ownBlock = some k → w.heap.size ≤ k ∧ k < w2.heap.size := World.ownsRow.lt hu
  have hl2 : ∀ k, v.ownBlock = some k → w.heap.size ≤ k ∧ k < w2.heap.size := World.ownsRow.lt hu2
  have hd : ∀ k, u.ownBlock = some k → v.ownBlock ≠ some k := fun k hk => rows_diff hu hu2 (by decide) hk
  have hn : n = h.tables.length := by obtain ⟨A, a, e⟩ := ownsRow_slice H.tables; rw [hv] at e; injection e
  have hst : ∀ w3, w3 = ((w2.setCell ⟨g, i * 3, none⟩ (.int .i64 y.avoid)).setCell ⟨g, i * 3 + 1, none⟩ u).setCell ⟨g, i * 3 + 2, none⟩ v → w3.ownsRow lo 115 3 (V 3) h.tables.length ((((tableCs V h.tables).set (i * 3) (.int .i64 y.avoid)).set (i * 3 + 1) u).set (i * 3 + 2) v) ∧ w3.heap.size = w2.heap.size ∧ ∀ k, k ≠ g → w3.heap[k]? = w2.heap[k]? := by
    intro w3 e
    subst e
    rw [hv, hn] at hT2 ⊢
    have s1 := World.ownsRow.stored hT2 (i * 3) (.int .i64 y.avoid)
    have s2 := World.ownsRow.stored s1.1 (i * 3 + 1) u
    have s3 := World.ownsRow.stored s2.1 (i * 3 + 2) v
    refine ⟨s3.1, by simp, fun k hk => ?_⟩
    rw [heap_setCell_other _ ⟨g, i * 3 + 2, none⟩ k _ hk, heap_setCell_other _ ⟨g, i * 3 + 1, none⟩ k _ hk, heap_setCell_other _ ⟨g, i * 3, none⟩ k _ hk]
  obtain ⟨w3, e3⟩ : ∃ w3, ((w2.setCell ⟨g, i * 3, none⟩ (.int .i64 y.avoid)).setCell ⟨g, i * 3 + 1, none⟩ u).setCell ⟨g, i * 3 + 2, none⟩ v = w3 := ⟨_, rfl⟩
  obtain ⟨h1, h2, h3⟩ := hst w3 e3.symm
  rw [e3]
  have ho : ∀ m, m ≠ 3 → ∀ k, (V m).ownBlock = some k → w3.heap[k]? = w.heap[k]? := fun m hm k hk =>
    (h3 k (fun e => H.apart m 3 k hm hk (by rw [hv, e]; rfl))).trans (hb.block k (H.lt m k hk).2)
  have hV : ∀ m, m ≠ 5 + 3 * i → m ≠ 6 + 3 * i → updV (updV V (5 + 3 * i) u) (6 + 3 * i) v m = V m := fun m a b => by rw [updV_other _ _ b, updV_other _ _ a]
  have hVu : updV (updV V (5 + 3 * i) u) (6 + 3 * i) v (5 + 3 * i) = u := by rw [updV_other _ _ (by omega), updV_same]
  have hA1 := H.apart_upd (r := 5 + 3 * i) (u := u) (fun k hk => .inr (hl k hk).1)
  have hL1 := H.lt_upd (w' := w2) (r := 5 + 3 * i) (u := u) hs1 (fun k hk => ⟨Nat.le_trans hlo (hl k hk).1, (hl k hk).2⟩)
  have hVv : ∀ m, m ≠ 6 + 3 * i → ∀ k, (updV V (5 + 3 * i) u m).ownBlock = some k → v.ownBlock ≠ some k := fun m hm k hk hk2 => by
    by_cases e : m = 5 + 3 * i
    · subst e; rw [updV_same] at hk; exact hd k hk hk2
    · rw [updV_other _ _ e] at hk
      have a := (H.lt m k hk).2
      have b := (hl2 k hk2).1
      omega
  refine ⟨?_, fun j z hz => ?_, ?_, ?_, ?_, fun j z hz => ?_, fun j z hz => ?_, fun m n k hmn hm hn => ?_, fun m k hm => ?_⟩
  · rw [hV _ (by omega) (by omega), ← itemCs_congr (V := V) (fun j _ => (hV _ (by omega) (by omega)).symm)]; exact ownsRow_keepH H.items (ho 0 (by omega))
  · rw [hV _ (by omega) (by omega)]; exact ownsRow_keepH (H.parts j z hz) (ho _ (by omega))
  · rw [hV _ (by omega) (by omega)]; exact ownsRow_keepH H.prices (ho 1 (by omega))
  · rw [hV _ (by omega) (by omega)]; exact ownsRow_keepH H.stock (ho 2 (by omega))
  · rw [hV _ (by omega) (by omega), List.length_set, ← tableCs_set3 V h.tables i hi y u v]; exact h1
  · have hz : (h.tables.set i y)[j]? = some z := hz
    by_cases e : j = i
    · subst e
      rw [List.getElem?_set_self hi] at hz
      injection hz with hz
      subst hz
      rw [hVu]
      exact ownsRow_monoH (ownsRow_keepH hu (fun k hk => h3 k (by have := (hl k hk).1; omega))) hlo
    · rw [List.getElem?_set_ne (fun e' => e e'.symm)] at hz
      rw [hV _ (by omega) (by omega)]
      exact ownsRow_keepH (H.dishes j z hz) (ho _ (by omega))
  · have hz : (h.tables.set i y)[j]? = some z := hz
    by_cases e : j = i
    · subst e
      rw [List.getElem?_set_self hi] at hz
      injection hz with hz
      subst hz
      rw [updV_same]
      exact ownsRow_monoH (ownsRow_keepH hu2 (fun k hk => h3 k (by have := (hl2 k hk).1; omega))) hlo
    · rw [List.getElem?_set_ne (fun e' => e e'.symm)] at hz
      rw [hV _ (by omega) (by omega)]
      exact ownsRow_keepH (H.of j z hz) (ho _ (by omega))
  · by_cases e1 : m = 6 + 3 * i
    · subst e1
      rw [updV_same] at hm
      rw [updV_other _ _ (fun e => hmn e.symm)] at hn
      exact hVv n (fun e => hmn e.symm) k hn hm
    · rw [updV_other _ _ e1] at hm
      by_cases e2 : n = 6 + 3 * i
      · subst e2
        rw [updV_same] at hn
        exact hVv m e1 k hm hn
      · rw [updV_other _ _ e2] at hn
        exact hA1 m n k hmn hm hn
  · rw [h2]
    by_cases e1 : m = 6 + 3 * i
    · subst e1
      rw [updV_same] at hm
      have b := hl2 k hm
      omega
    · rw [updV_other _ _ e1] at hm
      have a := hL1 m k hm
      omega

/-- A further table, without dishes. -/
theorem HseSl.moreTable {w w' : World} {lo : Nat} {V : Nat → Value} {h : Hse} (H : HseSl w lo V h) (hg : w.grownBy w' (V 3).ownBlock) (a : Int) {u : Value} (hu : w'.ownsRow lo 115 3 u (h.tables.length + 1) (tableCs V h.tables ++ [.int .i64 a, .slice none 0 0, .slice none 0 0]))
    (hub : ∀ k, u.ownBlock = some k → (V 3).ownBlock = some k ∨ w.heap.size ≤ k) :
    HseSl w' lo (updV (updV (updV V 3 u) (5 + 3 * h.tables.length) (.slice none 0 0)) (6 + 3 * h.tables.length) (.slice none 0 0)) { h with tables := h.tables ++ [⟨a, [], []⟩] } := by
  obtain ⟨V', hV'⟩ : ∃ V', updV (updV (updV V 3 u) (5 + 3 * h.tables.length) (.slice none 0 0)) (6 + 3 * h.tables.length) (.slice none 0 0) = V' := ⟨_, rfl⟩
  have hV : ∀ m, m ≠ 5 + 3 * h.tables.length → m ≠ 6 + 3 * h.tables.length → V' m = updV V 3 u m := fun m a b => by rw [← hV', updV_other _ _ b, updV_other _ _ a]
  have hVd : V' (5 + 3 * h.tables.length) = .slice none 0 0 := by rw [← hV', updV_other _ _ (by omega), updV_same]
  have hVo : V' (6 + 3 * h.tables.length) = .slice none 0 0 := by rw [← hV', updV_same]
  rw [hV']
  have hW : ∀ m, m ≠ 5 + 3 * h.tables.length → m ≠ 6 + 3 * h.tables.length → m ≠ 3 → V' m = V m := fun m a b c => by rw [hV m a b, updV_other _ _ c]
  have ho := fun m (hm : m ≠ 3) => H.others hg (m := m) hm
  have hA1 := H.apart_upd (r := 3) (u := u) hub
  have hL1 := H.lt_upd (w' := w') (r := 3) (u := u) hg.size (World.ownsRow.lt hu)
  have hB : ∀ m k, (V' m).ownBlock = some k → (updV V 3 u m).ownBlock = some k := fun m k hk => by
    by_cases e1 : m = 5 + 3 * h.tables.length
    · subst e1; rw [hVd] at hk; cases hk
    · by_cases e2 : m = 6 + 3 * h.tables.length
      · subst e2; rw [hVo] at hk; cases hk
      · rw [hV m e1 e2] at hk; exact hk
  refine ⟨?_, fun j z hz => ?_, ?_, ?_, ?_, fun j z hz => ?_, fun j z hz => ?_, fun m n k hmn hm hn => hA1 m n k hmn (hB m k hm) (hB n k hn), fun m k hm => hL1 m k (hB m k hm)⟩
  · rw [hW _ (by omega) (by omega) (by omega), ← itemCs_congr (V := V) (fun j _ => (hW _ (by omega) (by omega) (by omega)).symm)]; exact ownsRow_keepH H.items (ho 0 (by omega))
  · rw [hW _ (by omega) (by omega) (by omega)]; exact ownsRow_keepH (H.parts j z hz) (ho _ (by omega))
  · rw [hW _ (by omega) (by omega) (by omega)]; exact ownsRow_keepH H.prices (ho 1 (by omega))
  · rw [hW _ (by omega) (by omega) (by omega)]; exact ownsRow_keepH H.stock (ho 2 (by omega))
  · rw [hV _ (by omega) (by omega), updV_same, tableCs_snoc, hVd, hVo, ← tableCs_congr (V := V) (fun j hj => ⟨(hW _ (by omega) (by omega) (by omega)).symm, (hW _ (by omega) (by omega) (by omega)).symm⟩), List.length_append]
    exact hu
  · have hz : (h.tables ++ [⟨a, [], []⟩])[j]? = some z := hz
    by_cases e : j < h.tables.length
    · rw [List.getElem?_append_left e] at hz
      rw [hW _ (by omega) (by omega) (by omega)]
      exact ownsRow_keepH (H.dishes j z hz) (ho _ (by omega))
    · obtain rfl : j = h.tables.length := by have := (List.getElem?_eq_some_iff.1 hz).1; simp at this; omega
      obtain rfl : (⟨a, [], []⟩ : Tbl) = z := by simpa using hz
      rw [hVd]
      exact World.ownsRow_nil _ _ _ _
  · have hz : (h.tables ++ [⟨a, [], []⟩])[j]? = some z := hz
    by_cases e : j < h.tables.length
    · rw [List.getElem?_append_left e] at hz
      rw [hW _ (by omega) (by omega) (by omega)]
      exact ownsRow_keepH (H.of j z hz) (ho _ (by omega))
    · obtain rfl : j = h.tables.length := by have := (List.getElem?_eq_some_iff.1 hz).1; simp at this; omega
      obtain rfl : (⟨a, [], []⟩ : Tbl) = z := by simpa using hz
      rw [hVo]
      exact World.ownsRow_nil _ _ _ _

/-- The names behind a table that is away. -/
def nuV (t m : Nat) : Nat := if m % 3 ≠ 1 ∧ 5 + 3 * t ≤ m then m + 3 else m
theorem nuV_inj {t m n : Nat} (h : m ≠ n) : nuV t m ≠ nuV t n := by unfold nuV; split <;> split <;> omega
/-- A table is away. -/
theorem HseSl.lessTable {w w' : World} {lo t : Nat} {V : Nat → Value} {h : Hse} (H : HseSl w lo V h) (hg : w.grownBy w' (V 3).ownBlock) {u : Value} (hu : w'.ownsRow lo 115 3 u (h.tables.eraseIdx t).length (tableCs (fun m => V (nuV t m)) (h.tables.eraseIdx t)))
    (hub : ∀ k, u.ownBlock = some k → (V 3).ownBlock = some k ∨ w.heap.size ≤ k) :
    HseSl w' lo (updV (fun m => V (nuV t m)) 3 u) { h with tables := h.tables.eraseIdx t } := by
  have ho := fun m (hm : m ≠ 3) => H.others hg (m := m) hm
  have hn3 : ∀ m, m ≠ 3 → nuV t m ≠ 3 := fun m hm => by unfold nuV; split <;> omega
  have hlo : ∀ m, (m % 3 = 1 ∨ m < 5) → nuV t m = m := fun m hm => by unfold nuV; exact if_neg (by omega)
  have hL := World.ownsRow.lt hu
  have hg3 : ∀ j x, (h.tables.eraseIdx t)[j]? = some x → ∃ i, h.tables[i]? = some x ∧ nuV t (5 + 3 * j) = 5 + 3 * i ∧ nuV t (6 + 3 * j) = 6 + 3 * i := fun j x hx => by
    rw [List.getElem?_eraseIdx] at hx
    split at hx
    · exact ⟨j, hx, by unfold nuV; exact if_neg (by omega), by unfold nuV; exact if_neg (by omega)⟩
    · exact ⟨j + 1, hx, by unfold nuV; rw [if_pos (by omega)]; omega, by unfold nuV; rw [if_pos (by omega)]; omega⟩
  refine ⟨?_, fun j z hz => ?_, ?_, ?_, ?_, fun j z hz => ?_, fun j z hz => ?_, fun m n k hmn hm hn => ?_, fun m k hm => ?_⟩
  · rw [updV_other _ _ (by omega), hlo 0 (by omega), ← itemCs_congr (V := V) (fun j _ => by rw [updV_other _ _ (by omega), hlo _ (by omega)])]; exact ownsRow_keepH H.items (ho 0 (by omega))
  · rw [updV_other _ _ (by omega), hlo _ (by omega)]; exact ownsRow_keepH (H.parts j z hz) (ho _ (by omega))
  · rw [updV_other _ _ (by omega), hlo _ (by omega)]; exact ownsRow_keepH H.prices (ho 1 (by omega))
  · rw [updV_other _ _ (by omega), hlo _ (by omega)]; exact ownsRow_keepH H.stock (ho 2 (by omega))
  · rw [updV_same, ← tableCs_congr (V := fun m => V (nuV t m)) (fun j _ => ⟨(updV_other (fun m => V (nuV t m)) u (by omega)).symm, (updV_other (fun m => V (nuV t m)) u (by omega)).symm⟩)]; exact hu
  · obtain ⟨i, hi, e1, e2⟩ := hg3 j z hz
    rw [updV_other _ _ (by omega), e1]
    exact ownsRow_keepH (H.dishes i z hi) (ho _ (by omega))
  · obtain ⟨i, hi, e1, e2⟩ := hg3 j z hz
    rw [updV_other _ _ (by omega), e2]
    exact ownsRow_keepH (H.of i z hi) (ho _ (by omega))
  · by_cases e1 : m = 3
    · subst e1
      rw [updV_same] at hm
      rw [updV_other _ _ (fun e => hmn e.symm)] at hn
      rcases hub k hm with h1 | h1
      · exact H.apart 3 (nuV t n) k (fun e => hn3 n (fun e => hmn e.symm) e.symm) h1 hn
      · have := (H.lt _ k hn).2; omega
    · rw [updV_other _ _ e1] at hm
      by_cases e2 : n = 3
      · subst e2
        rw [updV_same] at hn
        rcases hub k hn with h1 | h1
        · exact H.apart (nuV t m) 3 k (hn3 m e1) hm h1
        · have := (H.lt _ k hm).2; omega
      · rw [updV_other _ _ e2] at hn
        exact H.apart _ _ k (nuV_inj hmn) hm hn
  · by_cases e1 : m = 3
    · subst e1; rw [updV_same] at hm; exact hL k hm
    · rw [updV_other _ _ e1] at hm
      have a := H.lt _ k hm
      have b := hg.size
      omega
end Go.Proofs.YtmepnilnlpoodaaDoor

namespace Go.Proofs.YtmepnilnlpoodaaDoor
open Go.RowKit Go.ChangeShapes Go.WideShapes Go.ChangeAt Go.Deep

structure SiteSl (w : World) (lo X : Nat) (V : Nat → Value) (h : Hse) : Prop where
  own : HseSl w lo V h
  box : w.heap[X]? = some (.cells #[V 0, V 2, V 3, V 1, .int .i64 h.cash] 75 (0, 0))
  far : ∀ m k, (V m).ownBlock = some k → k ≠ X
  lox : lo ≤ X

theorem SiteSl.lt {w : World} {lo X : Nat} {V : Nat → Value} {h : Hse} (S : SiteSl w lo X V h) : X < w.heap.size := heap_ltH S.box
theorem SiteSl.below {w w' : World} {lo X : Nat} {V : Nat → Value} {h : Hse} (S : SiteSl w lo X V h) (hb : Below w.heap.size w w') : SiteSl w' lo X V h :=
  ⟨S.own.below hb, (hb.block X S.lt).trans S.box, S.far, S.lox⟩
theorem SiteSl.cells {w : World} {lo X : Nat} {V : Nat → Value} {h : Hse} (S : SiteSl w lo X V h) :
    w.cell? ⟨X, 0, none⟩ = some (V 0) ∧ w.cell? ⟨X, 1, none⟩ = some (V 2) ∧ w.cell? ⟨X, 2, none⟩ = some (V 3) ∧ w.cell? ⟨X, 3, none⟩ = some (V 1) ∧ w.cell? ⟨X, 4, none⟩ = some (.int .i64 h.cash) := five_cells S.box
theorem SiteSl.frozen {w : World} {lo X : Nat} {V : Nat → Value} {h : Hse} (S : SiteSl w lo X V h) (j : Nat) : w.frozen? ⟨X, j, none⟩ = false := frozen_of_row w X j _ _ S.box

/-- The first rows of a site: the prices alone. -/
theorem HseSl.first {w : World} {lo : Nat} {u : Value} {ps : List Int} (c : Int) (hu : IntSl w lo u ps) : HseSl w lo (updV (fun _ => .slice none 0 0) 1 u) ⟨[], ps, [], c, []⟩ := by
  refine ⟨World.ownsRow_nil _ _ _ _, fun i x hx => (by cases hx), hu, World.ownsRow_nil _ _ _ _, World.ownsRow_nil _ _ _ _, fun i x hx => (by cases hx), fun i x hx => (by cases hx), fun m n k hmn hm hn => ?_, fun m k hm => ?_⟩
  · by_cases e : m = 1
    · subst e
      rw [updV_other _ _ (fun e => hmn e.symm)] at hn
      cases hn
    · rw [updV_other _ _ e] at hm
      cases hm
  · by_cases e : m = 1
    · subst e
      rw [updV_same] at hm
      exact World.ownsRow.lt hu k hm
    · rw [updV_other _ _ e] at hm
      cases hm

theorem SiteSl.setStock {w w2 : World} {lo X : Nat} {V : Nat → Value} {h : Hse} (S : SiteSl w lo X V h) (hb : Below w.heap.size w w2) {u : Value} {ys : List Int} (hu : IntSl w2 w.heap.size u ys) :
    SiteSl (w2.setCell ⟨X, 1, none⟩ u) lo X (updV V 2 u) { h with stock := ys } := by
  have hX := S.lt
  have hlo : lo ≤ w.heap.size := Nat.le_of_lt (Nat.lt_of_le_of_lt S.lox hX)
  have hl : ∀ k, u.ownBlock = some k → w.heap.size ≤ k ∧ k < w2.heap.size := World.ownsRow.lt hu
  have hf : ∀ m k, (updV V 2 u m).ownBlock = some k → k ≠ X := fun m k hk => by
    by_cases e : m = 2
    · subst e; rw [updV_same] at hk; have := (hl k hk).1; omega
    · rw [updV_other _ _ e] at hk; exact S.far m k hk
  refine ⟨(S.own.newStock hb hlo hu).far (fun m hm => hf m X hm rfl) u, ?_, hf, S.lox⟩
  rw [heap_setCell_same _ X 1 _ _ _ ((hb.block X hX).trans S.box)]
  rfl
theorem SiteSl.setItems {w : World} {lo X : Nat} {V : Nat → Value} {h : Hse} (S : SiteSl w lo X V h) (n : Nat) (hn : n ≤ 1048576) (hV : ∀ i, V (4 + 3 * i) = .slice none 0 0) :
    SiteSl ((w.alloc (.cells (madeCells #[.int .i64 0, .slice none 0 0, .int .i64 0] (n * 3)) 124)).setCell ⟨X, 0, none⟩ (.slice (some ⟨w.heap.size, 0, none⟩) n n)) lo X (updV V 0 (.slice (some ⟨w.heap.size, 0, none⟩) n n)) { h with items := List.replicate n noItem } := by
  have hX := S.lt
  have hlo : lo ≤ w.heap.size := Nat.le_of_lt (Nat.lt_of_le_of_lt S.lox hX)
  have hf : ∀ m k, (updV V 0 (.slice (some ⟨w.heap.size, 0, none⟩) n n) m).ownBlock = some k → k ≠ X := fun m k hk => by
    by_cases e : m = 0
    · subst e; rw [updV_same] at hk; injection hk with hk; have hk : w.heap.size = k := hk; omega
    · rw [updV_other _ _ e] at hk; exact S.far m k hk
  refine ⟨(S.own.madeItems hlo n hn hV).far (fun m hm => hf m X hm rfl) _, ?_, hf, S.lox⟩
  rw [heap_setCell_same _ X 0 _ _ _ ((heap_alloc_old w _ hX).trans S.box)]
  rfl
theorem SiteSl.setTables {w : World} {lo X : Nat} {V : Nat → Value} {h : Hse} (S : SiteSl w lo X V h) (n : Nat) (hn : n ≤ 1048576) (hV : ∀ i, V (5 + 3 * i) = .slice none 0 0 ∧ V (6 + 3 * i) = .slice none 0 0) :
    SiteSl ((w.alloc (.cells (madeCells #[.int .i64 0, .slice none 0 0, .slice none 0 0] (n * 3)) 115)).setCell ⟨X, 2, none⟩ (.slice (some ⟨w.heap.size, 0, none⟩) n n)) lo X (updV V 3 (.slice (some ⟨w.heap.size, 0, none⟩) n n)) { h with tables := List.replicate n noTbl } := by
  have hX := S.lt
  have hlo : lo ≤ w.heap.size := Nat.le_of_lt (Nat.lt_of_le_of_lt S.lox hX)
  have hf : ∀ m k, (updV V 3 (.slice (some ⟨w.heap.size, 0, none⟩) n n) m).ownBlock = some k → k ≠ X := fun m k hk => by
    by_cases e : m = 3
    · subst e; rw [updV_same] at hk; injection hk with hk; have hk : w.heap.size = k := hk; omega
    · rw [updV_other _ _ e] at hk; exact S.far m k hk
  refine ⟨(S.own.madeTables hlo n hn hV).far (fun m hm => hf m X hm rfl) _, ?_, hf, S.lox⟩
  rw [heap_setCell_same _ X 2 _ _ _ ((heap_alloc_old w _ hX).trans S.box)]
  rfl
theorem three_far {w : World} {g i X : Nat} {a b c : Value} (h : X ≠ g) : (((w.setCell ⟨g, i * 3, none⟩ a).setCell ⟨g, i * 3 + 1, none⟩ b).setCell ⟨g, i * 3 + 2, none⟩ c).heap[X]? = w.heap[X]? := by
  rw [heap_setCell_other _ ⟨g, i * 3 + 2, none⟩ X _ h, heap_setCell_other _ ⟨g, i * 3 + 1, none⟩ X _ h, heap_setCell_other _ ⟨g, i * 3, none⟩ X _ h]
theorem SiteSl.putItem {w w2 : World} {lo X g n c i : Nat} {V : Nat → Value} {h : Hse} (S : SiteSl w lo X V h) (hi : i < h.items.length) (hv : V 0 = .slice (some ⟨g, 0, none⟩) n c) (hb : Below w.heap.size w w2) (y : Item) {u : Value} (hu : PartSl w2 w.heap.size u y.parts) :
    SiteSl (((w2.setCell ⟨g, i * 3, none⟩ (.int .i64 y.yield)).setCell ⟨g, i * 3 + 1, none⟩ u).setCell ⟨g, i * 3 + 2, none⟩ (.int .i64 y.marks)) lo X (updV V (4 + 3 * i) u) { h with items := h.items.set i y } := by
  have hX := S.lt
  have hlo : lo ≤ w.heap.size := Nat.le_of_lt (Nat.lt_of_le_of_lt S.lox hX)
  have hl : ∀ k, u.ownBlock = some k → w.heap.size ≤ k ∧ k < w2.heap.size := World.ownsRow.lt hu
  have hg : g ≠ X := S.far 0 g (by rw [hv]; rfl)
  refine ⟨S.own.putItem hi hv hb hlo y hu, ?_, fun m k hk => ?_, S.lox⟩
  · rw [three_far (fun e => hg e.symm), hb.block X hX, S.box, updV_other _ _ (by omega), updV_other _ _ (by omega), updV_other _ _ (by omega), updV_other _ _ (by omega)]
  · by_cases e : m = 4 + 3 * i
    · subst e; rw [updV_same] at hk; have := (hl k hk).1; omega
    · rw [updV_other _ _ e] at hk; exact S.far m k hk
theorem SiteSl.putTable {w w2 : World} {lo X g n c i : Nat} {V : Nat → Value} {h : Hse} (S : SiteSl w lo X V h) (hi : i < h.tables.length) (hv : V 3 = .slice (some ⟨g, 0, none⟩) n c) (hb : Below w.heap.size w w2) (y : Tbl) {u v : Value} (hu : OrderSl w2 w.heap.size u y.dishes) (hu2 : IntSl w2 w.heap.size v y.of) :
    SiteSl (((w2.setCell ⟨g, i * 3, none⟩ (.int .i64 y.avoid)).setCell ⟨g, i * 3 + 1, none⟩ u).setCell ⟨g, i * 3 + 2, none⟩ v) lo X (updV (updV V (5 + 3 * i) u) (6 + 3 * i) v) { h with tables := h.tables.set i y } := by
  have hX := S.lt
  have hlo : lo ≤ w.heap.size := Nat.le_of_lt (Nat.lt_of_le_of_lt S.lox hX)
  have hl : ∀ k, u.ownBlock = some k → w.heap.size ≤ k ∧ k < w2.heap.size := World.ownsRow.lt hu
  have hl2 : ∀ k, v.ownBlock = some k → w.heap.size ≤ k ∧ k < w2.heap.size := World.ownsRow.lt hu2
  have hg : g ≠ X := S.far 3 g (by rw [hv]; rfl)
  have hV : ∀ m, m < 5 → updV (updV V (5 + 3 * i) u) (6 + 3 * i) v m = V m := fun m a => by rw [updV_other _ _ (by omega), updV_other _ _ (by omega)]
  refine ⟨S.own.putTable hi hv hb hlo y hu hu2, ?_, fun m k hk => ?_, S.lox⟩
  · rw [three_far (fun e => hg e.symm), hb.block X hX, S.box, hV 0 (by omega), hV 1 (by omega), hV 2 (by omega), hV 3 (by omega)]
  · by_cases e : m = 6 + 3 * i
    · subst e; rw [updV_same] at hk; have := (hl2 k hk).1; omega
    · rw [updV_other _ _ e] at hk
      by_cases e2 : m = 5 + 3 * i
      · subst e2; rw [updV_same] at hk; have := (hl k hk).1; omega
      · rw [updV_other _ _ e2] at hk; exact S.far m k hk

theorem box3H {W : World} {X : Nat} {t : TypeId} {a b c : Value} (h : W.heap[X]? = some (.cells #[a, b, c] t (0, 0))) :
    W.cell? ⟨X, 0, none⟩ = some a ∧ W.cell? ⟨X, 1, none⟩ = some b ∧ W.cell? ⟨X, 2, none⟩ = some c :=
  ⟨by rw [cell_of_row _ _ 0 _ _ _ h]; rfl, by rw [cell_of_row _ _ 1 _ _ _ h]; rfl, by rw [cell_of_row _ _ 2 _ _ _ h]; rfl⟩
/-- A list of which the first k are there, and then nothing. -/
def fillG {α : Type} (z : α) (l : List α) (k : Nat) : List α := l.take k ++ List.replicate (l.length - k) z
theorem fillG_len {α : Type} (z : α) (l : List α) (k : Nat) : (fillG z l k).length = l.length := by simp [fillG]; omega
theorem fillG_zero {α : Type} (z : α) (l : List α) : fillG z l 0 = List.replicate l.length z := by simp [fillG]
theorem fillG_all {α : Type} (z : α) {l : List α} {k : Nat} (h : l.length ≤ k) : fillG z l k = l := by simp [fillG, List.take_of_length_le h, Nat.sub_eq_zero_of_le h]
theorem fillG_set {α : Type} (z : α) {l : List α} {k : Nat} {x : α} (hx : l[k]? = some x) : (fillG z l k).set k x = fillG z l (k + 1) := by
  have hk : k < l.length := (List.getElem?_eq_some_iff.1 hx).1
  apply List.ext_getElem?
  intro j
  unfold fillG
  by_cases e : j = k
  · subst e
    rw [List.getElem?_set_self (by simp; omega), List.getElem?_append_left (by simp; omega), List.getElem?_take_of_lt (by omega), hx]
  · rw [List.getElem?_set_ne (fun e' => e e'.symm)]
    by_cases e2 : j < k
    · rw [List.getElem?_append_left (by simp; omega), List.getElem?_append_left (by simp; omega), List.getElem?_take_of_lt e2, List.getElem?_take_of_lt (by omega)]
    · rw [List.getElem?_append_right (by simp; omega), List.getElem?_append_right (by simp; omega), List.getElem?_replicate, List.getElem?_replicate]
      simp only [List.length_take]
      by_cases e3 : j < l.length
      · rw [if_pos (by omega), if_pos (by omega)]
      · rw [if_neg (by omega), if_neg (by omega)]
end Go.Proofs.YtmepnilnlpoodaaDoor
