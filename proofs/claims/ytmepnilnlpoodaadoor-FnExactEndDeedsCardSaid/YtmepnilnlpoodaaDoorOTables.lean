/- Lists of tickets: slices of lists of orders, read, owned, appended to, stored into; contracts of the helpers that measure, copy, compare, mark and ask them, and the reading of a kitchen among a row's arguments; append of a whole ticket. (Written by tools/pairs2.py.)
   Conditions: the bounds in each statement. -/
import Derived.Test.YtmepnilnlpoodaaDoorSlKit
import Derived.Test.YtmepnilnlpoodaaDoorOrders
import Derived.Maps.AppendAt
import Derived.RegionTactic
namespace Go.Proofs.YtmepnilnlpoodaaDoor
open Go.RowKit Go.ChangeShapes Go.WideShapes Go.ChangeAt Go.Deep

def TicksAt (w : World) (A : Option Addr) (rows : List (List Order)) : Prop :=
  ∀ i x, rows[i]? = some x → ∃ b off A' c, A = some ⟨b, off, none⟩ ∧ b < w.heap.size ∧ w.cell? ⟨b, off + i, none⟩ = some (.slice A' x.length c) ∧ OrdersAt w A' x

theorem TicksAt.below {w w' : World} {A : Option Addr} {rows : List (List Order)} (h : TicksAt w A rows) (hb : Below w.heap.size w w') : TicksAt w' A rows := by
  intro i x hx
  obtain ⟨b, off, A', c, e, hlt, h1, h2⟩ := h i x hx
  exact ⟨b, off, A', c, e, Nat.lt_of_lt_of_le hlt hb.size, (hb.cell hlt).trans h1, h2.below hb⟩

section
variable {H : Type} {enc : TypeId × Value → H} {w : World} {base : Nat} {spare : Nat → Bool} {held : Bool}

end

def szTicksGo : Int → List (List Order) → Int
  | left, [] => left
  | left, x :: r => if left - x.length < 0 then -1 else szTicksGo (left - x.length) r
def szTicks (left : Int) (l : List (List Order)) : Int := if left - l.length < 0 then -1 else szTicksGo (left - l.length) l

theorem szTicksGo_le : ∀ (l : List (List Order)) (left : Int), 0 ≤ szTicksGo left l → ∀ x ∈ l, (x.length : Int) ≤ left
  | [], _, _, x, hx => by simp at hx
  | y :: r, left, h, x, hx => by
    unfold szTicksGo at h
    split at h
    · omega
    · rcases List.mem_cons.1 hx with rfl | hx
      · omega
      · have := szTicksGo_le r _ h x hx
        omega

theorem szTicks_le {left : Int} {l : List (List Order)} (h1 : left ≤ 1048576) (h : ¬ szTicks left l < 0) : l.length ≤ 1048576 ∧ ∀ x ∈ l, x.length ≤ 1048576 := by
  unfold szTicks at h
  split at h
  · omega
  · refine ⟨by omega, fun x hx => ?_⟩
    have := szTicksGo_le l (left - l.length) (by omega) x hx
    omega

theorem ownsRow_apartT {w : World} {lo lo' : Nat} {e e' : TypeId} {size size' : Nat} {v v' : Value} {n n' : Nat} {xs xs' : List Value} (h : w.ownsRow lo e size v n xs) (h' : w.ownsRow lo' e' size' v' n' xs') (hne : e ≠ e') {k : Nat} (hk : v.ownBlock = some k) : v'.ownBlock ≠ some k := by
  rcases h.2 with ⟨rfl, _⟩ | ⟨g, cap, cur, rfl, _, hg, _⟩
  · cases hk
  · injection hk with hk
    subst hk
    rcases h'.2 with ⟨rfl, _⟩ | ⟨g', cap', cur', rfl, _, hg', _⟩
    · intro h; cases h
    · intro h
      injection h with h
      have h : g' = g := h
      subst h
      rw [hg] at hg'
      injection hg' with hg'
      injection hg' with _ ht _
      exact hne ht

/-- The slice value v owns, from block lo on, a table; its rows are the call's own as well, each in a block of its own. -/
def TickSl (w : World) (lo : Nat) (v : Value) (rows : List (List Order)) : Prop :=
  ∃ vs : List Value, w.ownsRow lo 113 1 v rows.length vs ∧ (∀ (i : Nat) (x : List Order), rows[i]? = some x → ∃ u, vs[i]? = some u ∧ OrderSl w lo u x) ∧
    (∀ (i j : Nat) (u u' : Value) (k : Nat), i < j → vs[i]? = some u → vs[j]? = some u' → u.ownBlock = some k → u'.ownBlock ≠ some k)

theorem TickSl.form {w : World} {lo : Nat} {v : Value} {rows : List (List Order)} (h : TickSl w lo v rows) : ∃ A c, v = .slice A rows.length c ∧ TicksAt w A rows := by
  obtain ⟨vs, h1, h2, _⟩ := h
  have hlt := h1.lt
  rcases h1.2 with ⟨hv, hn⟩ | ⟨g, cap, cur, hv, _⟩
  · have : rows = [] := List.eq_nil_of_length_eq_zero hn
    subst this
    exact ⟨none, 0, hv, fun i x hx => by simp at hx⟩
  · refine ⟨some ⟨g, 0, none⟩, cap, hv, fun i p hp => ?_⟩
    subst hv
    have hi : i < rows.length := (List.getElem?_eq_some_iff.1 hp).1
    obtain ⟨u, hu, hS⟩ := h2 i p hp
    obtain ⟨A', c', rfl, hI⟩ := hS.form
    refine ⟨g, 0, A', c', rfl, (hlt g rfl).2, ?_, hI⟩
    rw [Nat.zero_add, World.ownsRow.cellAt h1 i (by omega)]
    exact hu

theorem TickSl.rows {w : World} {lo n c : Nat} {A : Option Addr} {rows : List (List Order)} (h : TickSl w lo (.slice A n c) rows) : TicksAt w A rows := by
  obtain ⟨A', c', e, hI⟩ := h.form
  injection e with e
  rw [e]
  exact hI

theorem TickSl.below {w w' : World} {lo : Nat} {v : Value} {rows : List (List Order)} (h : TickSl w lo v rows) (hb : Below w.heap.size w w') : TickSl w' lo v rows := by
  obtain ⟨vs, h1, h2, h3⟩ := h
  refine ⟨vs, ownsRow_below h1 hb, fun i x hx => ?_, h3⟩
  obtain ⟨u, hu, hS⟩ := h2 i x hx
  exact ⟨u, hu, hS.below hb⟩

/-- The copy of an argument: a table of the call's own. -/
def OwnTick (w : World) (g : Nat) (rows : List (List Order)) : Prop := TickSl w g (.slice (some ⟨g, 0, none⟩) rows.length rows.length) rows
theorem OwnTick.below {w w' : World} {g : Nat} {rows : List (List Order)} (h : OwnTick w g rows) (hb : Below w.heap.size w w') : OwnTick w' g rows := TickSl.below h hb
theorem OwnTick.at_ {w : World} {g : Nat} {rows : List (List Order)} (h : OwnTick w g rows) : TicksAt w (some ⟨g, 0, none⟩) rows := TickSl.rows h

theorem TickSl.cell {w : World} {lo g n cap : Nat} {rows : List (List Order)} (h : TickSl w lo (.slice (some ⟨g, 0, none⟩) n cap) rows) (j : Nat) (hj : j < rows.length) : ∃ u, w.cell? ⟨g, j, none⟩ = some u := by
  obtain ⟨A, c, e, hI⟩ := h.form
  injection e with e1 e2 e3
  subst e1
  obtain ⟨b, off, A', c', e, _, hc, _⟩ := hI j rows[j] (List.getElem?_eq_getElem hj)
  injection e with e
  injection e with e1 e2
  subst e1 e2
  rw [Nat.zero_add] at hc
  exact ⟨_, hc⟩

theorem TickSl.frozen {w : World} {lo g n cap : Nat} {rows : List (List Order)} (h : TickSl w lo (.slice (some ⟨g, 0, none⟩) n cap) rows) (j : Nat) : w.frozen? ⟨g, j, none⟩ = false := by
  obtain ⟨A, c, e, _⟩ := h.form
  injection e with e1 e2 e3
  subst e2
  obtain ⟨vs, h1, _⟩ := h
  exact World.ownsRow.frozenAt h1 j

theorem TickSl.lt {w : World} {lo g n cap : Nat} {rows : List (List Order)} (h : TickSl w lo (.slice (some ⟨g, 0, none⟩) n cap) rows) : g < w.heap.size := by
  obtain ⟨vs, h1, _⟩ := h
  exact (h1.lt g rfl).2

/-- A row that is younger than the table is stored into it. -/
theorem TickSl.store {W0 w : World} {lo g n cap : Nat} {rows : List (List Order)} (h : TickSl W0 lo (.slice (some ⟨g, 0, none⟩) n cap) rows) (hb : Below W0.heap.size W0 w) (hlo : lo ≤ W0.heap.size) {u : Value} {x : List Order} (hu : OrderSl w W0.heap.size u x) (j : Nat) (hj : j < rows.length) :
    TickSl (w.setCell ⟨g, j, none⟩ u) lo (.slice (some ⟨g, 0, none⟩) n cap) (rows.set j x) := by
  obtain ⟨A, c, e, _⟩ := h.form
  injection e with e1 e2 e3
  subst e2
  obtain ⟨vs, h1, h2, h3⟩ := h
  have h1w := ownsRow_below h1 hb
  have hst := World.ownsRow.stored h1w j u
  have hlen : vs.length = rows.length := by have := h1.1; omega
  have keep : ∀ {v : Value} {y : List Order} {l0 : Nat}, OrderSl w l0 v y → OrderSl (w.setCell ⟨g, j, none⟩ u) l0 v y := fun {v y l0} hv => World.ownsRow.kept hv hst.2 (by
    cases e : v.ownBlock with
    | none => exact .inl rfl
    | some k => exact .inr (fun e' => by
        have e' : some k = some g := e'
        injection e' with e'
        subst e'
        exact ownsRow_apartT hv h1w (by decide) e rfl))
  refine ⟨vs.set j u, by rw [List.length_set]; exact hst.1, fun i y hy => ?_, fun i i' v v' k hii hv hv' hk => ?_⟩
  · by_cases e : i = j
    · subst e
      rw [List.getElem?_set_self hj] at hy
      injection hy with hy
      subst hy
      exact ⟨u, List.getElem?_set_self (by omega), keep (ownsRow_mono hu hlo)⟩
    · rw [List.getElem?_set_ne (fun h => e h.symm)] at hy
      obtain ⟨v, hv, hS⟩ := h2 i y hy
      exact ⟨v, by rw [List.getElem?_set_ne (fun h => e h.symm)]; exact hv, keep (hS.below hb)⟩
  · have young : ∀ {v : Value} {i : Nat}, vs[i]? = some v → ∀ k, v.ownBlock = some k → k < W0.heap.size := fun {v i} hv k hk => by
      have hi : i < rows.length := by have := (List.getElem?_eq_some_iff.1 hv).1; omega
      obtain ⟨v', hv', hS⟩ := h2 i rows[i] (List.getElem?_eq_getElem hi)
      rw [hv] at hv'
      injection hv' with hv'
      subst hv'
      exact (World.ownsRow.lt hS k hk).2
    have old := World.ownsRow.lt hu
    by_cases e : i = j
    · subst e
      rw [List.getElem?_set_self (by omega)] at hv
      injection hv with hv
      subst hv
      rw [List.getElem?_set_ne (by omega)] at hv'
      intro hk'
      have a := young hv' k hk'
      have b := (old k hk).1
      omega
    · rw [List.getElem?_set_ne (fun h => e h.symm)] at hv
      by_cases e' : i' = j
      · subst e'
        rw [List.getElem?_set_self (by omega)] at hv'
        injection hv' with hv'
        subst hv'
        intro hk'
        have a := young hv k hk
        have b := (old k hk').1
        omega
      · rw [List.getElem?_set_ne (fun h => e' h.symm)] at hv'
        exact h3 i i' v v' k hii hv hv' hk

theorem infoTick : (Tryd.prog.info? 113).map (fun i => (i.zero, i.size, i.bytes)) = some (some (.slice none 0 0), 1, 24) := by kernel_rfl

theorem make_ticks (n : Nat) (hn : n ≤ 1048576) (w : World) :
    (Instr.makeSlice 62 (.int .i64 (n : Int)) (.int .i64 (n : Int))).run Tryd.prog w = .ok (.slice (some ⟨w.heap.size, 0, none⟩) n n) (w.alloc (.cells (madeCells #[.slice none 0 0] n) 113)) :=
  run_make_row' 62 113 (.slice none 0 0) 24 Tryd.underlying62 infoTick rfl .i64 .i64 n (by omega) (by omega) w

/-- The first k rows, and nothing behind them. -/
def fillT (rows : List (List Order)) (k : Nat) : List (List Order) := rows.take k ++ List.replicate (rows.length - k) []
theorem fillT_len (rows : List (List Order)) (k : Nat) : (fillT rows k).length = rows.length := by simp [fillT]; omega
theorem fillT_all (rows : List (List Order)) : fillT rows rows.length = rows := by simp [fillT]
theorem fillT_set {rows : List (List Order)} {k : Nat} {x : List Order} (hx : rows[k]? = some x) : (fillT rows k).set k x = fillT rows (k + 1) := by
  have hk : k < rows.length := (List.getElem?_eq_some_iff.1 hx).1
  have hl : (rows.take k).length = k := by simp; omega
  unfold fillT
  obtain ⟨d, hd⟩ : ∃ d, rows.length - k = d + 1 := ⟨rows.length - k - 1, by omega⟩
  rw [hd, List.replicate_succ, List.set_append_right _ _ (by omega), hl, Nat.sub_self, List.set_cons_zero, List.take_add_one, hx, show rows.length - (k + 1) = d from by omega]
  simp

theorem fillT_zero (w : World) (lo : Nat) (rows : List (List Order)) (hlo : lo ≤ w.heap.size) (hn : rows.length ≤ 1048576) :
    TickSl (w.alloc (.cells (madeCells #[.slice none 0 0] rows.length) 113)) lo (.slice (some ⟨w.heap.size, 0, none⟩) rows.length rows.length) (fillT rows 0) := by
  have hrow := World.rowIs_made w (.slice none 0 0) rows.length 113
  have h0 : fillT rows 0 = List.replicate rows.length [] := by simp [fillT]
  rw [h0]
  refine ⟨List.replicate rows.length (.slice none 0 0), ?_, fun i x hx => ?_, fun i j u u' k _ hu _ hk => ?_⟩
  · rw [List.length_replicate]
    exact ownsRow_of_row (size := 1) (n := rows.length) (by rw [Nat.mul_one]; exact hrow) hlo (by unfold maxLen; omega) (by simp) (fun i hi => by
      rw [Nat.mul_one] at hi
      simp [hi])
  · rw [List.getElem?_replicate] at hx
    split at hx
    · rename_i hi
      injection hx with hx
      subst hx
      exact ⟨.slice none 0 0, by simp [hi], World.ownsRow_nil _ _ _ _⟩
    · cases hx
  · rw [List.getElem?_replicate] at hu
    split at hu
    · injection hu with hu
      subst hu
      cases hk
    · cases hu

theorem heap_otherT {w : World} {g j k : Nat} {u : Value} (h : k ≠ g) : (w.setCell ⟨g, j, none⟩ u).heap[k]? = w.heap[k]? := heap_setCell_other w ⟨g, j, none⟩ k u (by simp; omega)

/-- A store into the table's own block turns no row of numbers. -/
theorem TickSl.keepRow {w : World} {lo l0 g n cap j : Nat} {rows : List (List Order)} {u v : Value} {y : List Order} (h : TickSl w lo (.slice (some ⟨g, 0, none⟩) n cap) rows) (hv : OrderSl w l0 v y) : OrderSl (w.setCell ⟨g, j, none⟩ u) l0 v y := by
  obtain ⟨vs, h1, _⟩ := h
  have hs : w.grownBy (w.setCell ⟨g, j, none⟩ u) (some g) := ⟨rfl, rfl, rfl, by simp, fun k _ hk => heap_otherT (fun e => hk (by rw [e]))⟩
  refine World.ownsRow.kept hv hs ?_
  cases e : v.ownBlock with
  | none => exact .inl rfl
  | some k => exact .inr (fun e' => by
      have e' : some k = some g := e'
      injection e' with e'
      subst e'
      exact ownsRow_apartT hv h1 (by decide) e rfl)

theorem OrderSl.one {w : World} {lo : Nat} {v : Value} {xs : List Order} (h : OrderSl w lo v xs) : v.oneCell' = true := by
  obtain ⟨A, c, rfl, _⟩ := h.form
  rfl

/-- Append of one row that is younger than the table, in a plain region. -/
theorem wpList_push_tick {W0 W : World} {ops : Array Oper} {rest : List Oper} {o : Oper} {a : Act} {Q : Exit → Act → World → Prop} (hgd : o.guard = none) (s x : Operand)
    (ho : o.op = .call { callee := .builtin .append, args := #[s, x], argTypes := #[62, 62] }) (lo : Nat) (v : Value) (rows : List (List Order)) (hs : a.eval s = v) (hown : TickSl W0 lo v rows) (hb : Below W0.heap.size W0 W) (hlo : lo ≤ W0.heap.size) (g : Nat) (u : Value) (y : List Order) (hu : OrderSl W W0.heap.size u y)
    (hx : a.eval x = .slice (some ⟨g, 0, none⟩) 1 1) (hg : W.heap[g]? = some (.cells #[u] 113 (0, 0))) (hn : rows.length ≤ 1048576)
    (h : ∀ g' cap w', TickSl w' lo (.slice (some ⟨g', 0, none⟩) (rows.length + 1) cap) (rows ++ [y]) → W.grownBy w' v.ownBlock → wpList Tryd.prog ops Q rest (a.put o.dst (.slice (some ⟨g', 0, none⟩) (rows.length + 1) cap)) w') :
    wpList Tryd.prog ops Q (o :: rest) a W := by
  obtain ⟨vs, h1, h2, h3⟩ := hown
  have h1W := ownsRow_below h1 hb
  have hlen : vs.length = rows.length := by have := h1.1; omega
  obtain ⟨i0, hi, hz0, hz1, hz2⟩ := info_parts infoTick
  refine wpList_append_lies W hgd s x 62 ho lo 113 i0 _ 1 24 Tryd.underlying62 hi hz0 hz1 hz2 rfl (by decide) v rows.length vs hs h1W ⟨g, 0, none⟩ 1 1 [u] hx rfl
    (World.news_of_block (cs := #[u]) hg) (by simp [hu.one]) (by decide) (by unfold maxLen; omega) (by omega) (Nat.le_trans hlo hb.size) _ rfl ?_
  intro g' cap w' k1 k2 _ _
  have keep : ∀ {z : Value} {l0 : Nat} {zs : List Order}, OrderSl W l0 z zs → OrderSl w' l0 z zs := fun {z l0 zs} hz => World.ownsRow.kept hz k2 (by
    cases e : z.ownBlock with
    | none => exact .inl rfl
    | some k => exact .inr (fun e' => ownsRow_apartT hz h1W (by decide) e e'.symm))
  have young : ∀ {z : Value} {i : Nat}, vs[i]? = some z → ∀ k, z.ownBlock = some k → k < W0.heap.size := fun {z i} hz k hk => by
    have hi : i < rows.length := by have := (List.getElem?_eq_some_iff.1 hz).1; omega
    obtain ⟨z', hz', hS⟩ := h2 i rows[i] (List.getElem?_eq_getElem hi)
    rw [hz] at hz'
    injection hz' with hz'
    subst hz'
    exact (World.ownsRow.lt hS k hk).2
  refine h g' cap w' ⟨vs ++ [u], by rw [List.length_append]; exact k1, fun i z hz => ?_, fun i j p p' k hij hp hp' hk => ?_⟩ k2
  · by_cases hi : i < rows.length
    · rw [List.getElem?_append_left hi] at hz
      obtain ⟨p, hp, hS⟩ := h2 i z hz
      exact ⟨p, by rw [List.getElem?_append_left (by omega)]; exact hp, keep (hS.below hb)⟩
    · have hil : i = rows.length := by
        have := (List.getElem?_eq_some_iff.1 hz).1
        simp at this
        omega
      subst hil
      obtain rfl : y = z := by simpa using hz
      exact ⟨u, by rw [List.getElem?_append_right (by omega), hlen, Nat.sub_self]; rfl, keep (ownsRow_mono hu hlo)⟩
  · have hjl := (List.getElem?_eq_some_iff.1 hp').1
    simp only [List.length_append, List.length_cons, List.length_nil] at hjl
    rw [List.getElem?_append_left (by omega)] at hp
    by_cases hj : j < vs.length
    · rw [List.getElem?_append_left hj] at hp'
      exact h3 i j p p' k hij hp hp' hk
    · rw [List.getElem?_append_right (by omega), show j - vs.length = 0 from by omega] at hp'
      obtain rfl : u = p' := by simpa using hp'
      intro hk'
      have a := young hp k hk
      have b := (World.ownsRow.lt hu k hk').1
      omega

theorem fillT_end {rows : List (List Order)} {k : Nat} (h : rows.length ≤ k) : fillT rows k = rows := by
  unfold fillT
  rw [List.take_of_length_le h, show rows.length - k = 0 from by omega]
  simp
theorem drop_atT {α : Type} {xs : List α} {k : Nat} {x : α} (h : xs[k]? = some x) : xs.drop k = x :: xs.drop (k + 1) := by
  obtain ⟨hk, rfl⟩ := List.getElem?_eq_some_iff.1 h
  exact List.drop_eq_getElem_cons hk

def markGoT : Int → List (List Order) → List (List Order)
  | _, [] => []
  | q, x :: r => seqOrders q x.length :: markGoT (q + 2 * (x.length : Int)) r
def markEndT : Int → List (List Order) → Int
  | q, [] => q
  | q, x :: r => markEndT (q + 2 * (x.length : Int)) r

theorem markGoT_len : ∀ (q : Int) (rows : List (List Order)), (markGoT q rows).length = rows.length
  | _, [] => rfl
  | q, x :: r => by simp [markGoT, markGoT_len]

/-- Row i of a table that the call owns, and what becomes of the table when the row's numbers turn. -/
theorem TickSl.at_ {w : World} {lo g n cap : Nat} {rows : List (List Order)} (h : TickSl w lo (.slice (some ⟨g, 0, none⟩) n cap) rows) {i : Nat} {x : List Order} (hx : rows[i]? = some x) :
    ∃ A' c', w.cell? ⟨g, i, none⟩ = some (.slice A' x.length c') ∧ OrderSl w lo (.slice A' x.length c') x ∧ g < w.heap.size ∧
      ∀ w' y, y.length = x.length → OrderSl w' lo (.slice A' x.length c') y → w.grownBy w' (Value.slice A' x.length c').ownBlock → TickSl w' lo (.slice (some ⟨g, 0, none⟩) n cap) (rows.set i y) := by
  obtain ⟨A, c, e, _⟩ := h.form
  injection e with e1 e2 e3
  subst e2
  obtain ⟨vs, h1, h2, h3⟩ := h
  have hi : i < rows.length := (List.getElem?_eq_some_iff.1 hx).1
  have hlen : vs.length = rows.length := by have := h1.1; omega
  obtain ⟨u, hu, hS⟩ := h2 i x hx
  obtain ⟨A', c', rfl, _⟩ := hS.form
  refine ⟨A', c', ?_, hS, (h1.lt g rfl).2, fun w' y hy hS' hg => ⟨vs, ?_, fun j z hz => ?_, h3⟩⟩
  · rw [World.ownsRow.cellAt h1 i (by omega)]
    exact hu
  · rw [List.length_set]
    refine World.ownsRow.kept h1 hg (.inr (fun e => ?_))
    have e : some g = (Value.slice A' x.length c').ownBlock := e
    exact ownsRow_apartT hS h1 (by decide) e.symm rfl
  · by_cases e : j = i
    · subst e
      rw [List.getElem?_set_self hi] at hz
      injection hz with hz
      subst hz
      exact ⟨_, hu, hS'⟩
    · rw [List.getElem?_set_ne (fun h => e h.symm)] at hz
      obtain ⟨v, hv, hT⟩ := h2 j z hz
      refine ⟨v, hv, World.ownsRow.kept hT hg ?_⟩
      cases e1 : v.ownBlock with
      | none => exact .inl rfl
      | some k =>
        refine .inr (fun e2 => ?_)
        rcases Nat.lt_or_gt_of_ne e with hlt | hgt
        · exact h3 j i v _ k hlt hv hu e1 e2.symm
        · exact h3 i j _ v k hgt hu hv e2.symm e1

theorem TickSl.empty {w : World} {lo : Nat} {A : Option Addr} {c : Nat} {rows : List (List Order)} (h : TickSl w lo (.slice A 0 c) rows) : rows = [] := by
  obtain ⟨A', c', e, _⟩ := h.form
  injection e with e1 e2 e3
  exact List.eq_nil_of_length_eq_zero e2.symm

theorem TickSl.rowlo {w : World} {lo g n cap : Nat} {rows : List (List Order)} (h : TickSl w lo (.slice (some ⟨g, 0, none⟩) n cap) rows) : lo ≤ g := by
  obtain ⟨vs, h1, _⟩ := h
  exact (h1.lt g rfl).1

/-- A write below a table's blocks leaves it. -/
theorem TickSl.grown {w w' : World} {lo k : Nat} {v : Value} {rows : List (List Order)} (h : TickSl w lo v rows) (hg : w.grownBy w' (some k)) (hk : k < lo) : TickSl w' lo v rows := by
  obtain ⟨vs, h1, h2, h3⟩ := h
  have far : ∀ {e : TypeId} {size n : Nat} {z : Value} {zs : List Value}, w.ownsRow lo e size z n zs → w'.ownsRow lo e size z n zs := fun {e size n z zs} hz => World.ownsRow.kept hz hg (by
    cases e1 : z.ownBlock with
    | none => exact .inl rfl
    | some j => exact .inr (fun e2 => by injection e2 with e2; have := (hz.lt j e1).1; omega))
  refine ⟨vs, far h1, fun i x hx => ?_, h3⟩
  obtain ⟨u, hu, hS⟩ := h2 i x hx
  exact ⟨u, hu, far hS⟩

theorem markEndT_ge : ∀ (rows : List (List Order)) (q : Int), 0 ≤ q → 0 ≤ markEndT q rows
  | [], _, h => h
  | x :: r, q, h => markEndT_ge r _ (by omega)
theorem orders_news {W : World} {ad : Addr} {xs : List Order} (hA : OrdersAt W (some ad) xs) : ∀ j u, (orderCells xs)[j]? = some u → W.cell? (ad.add j) = some u := by
  intro j u hu
  have hj : j < xs.length * 2 := by have := (List.getElem?_eq_some_iff.1 hu).1; rwa [orderCells_len] at this
  have hx := List.getElem?_eq_getElem (show j / 2 < xs.length by omega)
  obtain ⟨b, off, e, _, h1, h2⟩ := hA _ _ hx
  injection e with e
  subst e
  have hc := orderCells_at hx
  rw [add_plain]
  rcases (by omega : j = j / 2 * 2 ∨ j = j / 2 * 2 + 1) with e | e
  · rw [e] at hu ⊢
    rw [hc.1] at hu
    rw [h1, hu]
  · rw [e] at hu ⊢
    rw [hc.2] at hu
    rw [show off + (j / 2 * 2 + 1) = off + j / 2 * 2 + 1 from by omega, h2, hu]

theorem orderCells_one {xs : List Order} : ∀ u ∈ orderCells xs, u.oneCell' = true := by
  intro u hu
  obtain ⟨p, _, h⟩ := List.mem_flatMap.1 hu
  simp only [List.mem_cons, List.not_mem_nil, or_false] at h
  rcases h with rfl | rfl <;> rfl

theorem OrdersAt.nil (w : World) (A : Option Addr) : OrdersAt w A [] := fun i p hp => by simp at hp

theorem TickSl.mono {w : World} {lo lo' : Nat} {v : Value} {rows : List (List Order)} (h : TickSl w lo v rows) (hlo : lo' ≤ lo) : TickSl w lo' v rows := by
  obtain ⟨vs, h1, h2, h3⟩ := h
  refine ⟨vs, ownsRow_mono h1 hlo, fun i x hx => ?_, h3⟩
  obtain ⟨u, hu, hS⟩ := h2 i x hx
  exact ⟨u, hu, ownsRow_mono hS hlo⟩

/-- Append of a whole ticket, onto whatever the call owns (nil too). -/
theorem wp_spread_tick {W : World} {o : Oper} {a : Act} {K : Act → World → Prop} {Q : Exit → Act → World → Prop} (s x : Operand)
    (ho : o.op = .call { callee := .builtin .append, args := #[s, x], argTypes := #[113, 113] }) (lo : Nat) (v : Value) (ls : List Order) (hs : a.eval s = v) (hown : OrderSl W lo v ls)
    (D : Option Addr) (c : Nat) (xs : List Order) (hx : a.eval x = .slice D xs.length c) (hA : OrdersAt W D xs) (hn : ls.length + xs.length ≤ 1048576) (hlo : lo ≤ W.heap.size)
    (h : ∀ A cap w', OrderSl w' lo (.slice A (ls.length + xs.length) cap) (ls ++ xs) → W.grownBy w' v.ownBlock → K (a.put o.dst (.slice A (ls.length + xs.length) cap)) w') : o.wp Tryd.prog a W K Q := by
  obtain ⟨i0, hi, hz0, hz1, hz2⟩ := info_parts infoOrder
  cases D with
  | none =>
    have hnil : xs = [] := by
      cases xs with
      | nil => rfl
      | cons p r => obtain ⟨b, off, e, _⟩ := hA 0 p rfl; cases e
    subst hnil
    have hr : (Builtin.append_ #[113, 113] o.type #[v, .slice none 0 c]).run Tryd.prog W = .ok v W := by
      rcases hown.2 with ⟨rfl, _⟩ | ⟨g, cap, cur, rfl, _, _, hnc, _⟩
      · simp [Builtin.append_, run_underlying Tryd.underlying113, sizeOf, typeInfo, hi, Builtin.lenOf, Builtin.firstCells]
      · simp [Builtin.append_, run_underlying Tryd.underlying113, sizeOf, typeInfo, hi, Builtin.lenOf, Builtin.firstCells, hnc, storeCells]
    obtain ⟨A, cap, rfl, -⟩ := hown.form
    unfold Oper.wp execOp
    simp only [List.length_nil] at hx
    simp only [ho, resolve, invoke, builtin, Sem.run_bind, Sem.run_pure, Result.andThen_ok, List.map_toArray, List.map_cons, List.map_nil, hs, hx, hr]
    have := h A cap W (by simpa using hown) (World.grownBy.refl _ _)
    simp only [List.length_nil, Nat.add_zero] at this
    exact this
  | some ad =>
    obtain ⟨v', w', hr, h2, h3, _, _⟩ := run_append_own_at (P := Tryd.prog) W lo 113 o.type 121 i0 _ 2 16 Tryd.underlying113 hi hz0 hz1 hz2 rfl (by decide) v ls.length (orderCells ls) hown ad xs.length c (orderCells xs) (orderCells_len xs) (orders_news hA) orderCells_one (by unfold maxLen; omega) (by omega) hlo
    have h2' : OrderSl w' lo v' (ls ++ xs) := by
      unfold OrderSl
      rw [List.length_append, show orderCells (ls ++ xs) = orderCells ls ++ orderCells xs from by simp [orderCells]]
      exact h2
    obtain ⟨A, cap, rfl, -⟩ := h2'.form
    rw [List.length_append] at h2' hr
    unfold Oper.wp execOp
    simp only [ho, resolve, invoke, builtin, Sem.run_bind, Sem.run_pure, Result.andThen_ok, List.map_toArray, List.map_cons, List.map_nil, hs, hx, hr]
    exact h A cap w' h2' h3

theorem wpList_spread_tick {W : World} {ops : Array Oper} {rest : List Oper} {o : Oper} {a : Act} {Q : Exit → Act → World → Prop} (hgd : o.guard = none) (s x : Operand)
    (ho : o.op = .call { callee := .builtin .append, args := #[s, x], argTypes := #[113, 113] }) (lo : Nat) (v : Value) (ls : List Order) (hs : a.eval s = v) (hown : OrderSl W lo v ls)
    (D : Option Addr) (c : Nat) (xs : List Order) (hx : a.eval x = .slice D xs.length c) (hA : OrdersAt W D xs) (hn : ls.length + xs.length ≤ 1048576) (hlo : lo ≤ W.heap.size)
    (h : ∀ A cap w', OrderSl w' lo (.slice A (ls.length + xs.length) cap) (ls ++ xs) → W.grownBy w' v.ownBlock → wpList Tryd.prog ops Q rest (a.put o.dst (.slice A (ls.length + xs.length) cap)) w') : wpList Tryd.prog ops Q (o :: rest) a W :=
  wpList_plain hgd fun _ hK => wp_spread_tick s x ho lo v ls hs hown D c xs hx hA hn hlo fun A cap w' h2 h3 => hK _ _ (h A cap w' h2 h3)

theorem step_spread_tick {W : World} {ops : Array Oper} {o : Oper} {a : Act} {K : Act → World → Prop} {Q : Exit → Act → World → Prop} {E : Prop} (hgd : o.guard = none) (s x : Operand)
    (ho : o.op = .call { callee := .builtin .append, args := #[s, x], argTypes := #[113, 113] }) (lo : Nat) (v : Value) (ls : List Order) (hs : a.eval s = v) (hown : OrderSl W lo v ls)
    (D : Option Addr) (c : Nat) (xs : List Order) (hx : a.eval x = .slice D xs.length c) (hA : OrdersAt W D xs) (hn : ls.length + xs.length ≤ 1048576) (hlo : lo ≤ W.heap.size)
    (h : ∀ A cap w', OrderSl w' lo (.slice A (ls.length + xs.length) cap) (ls ++ xs) → W.grownBy w' v.ownBlock → K (a.put o.dst (.slice A (ls.length + xs.length) cap)) w') :
    if Region.wanted o (yielded ops a.tmps) = true then Oper.wp Tryd.prog o a W K Q else E := by
  have hw : Region.wanted o (yielded ops a.tmps) = true := by simp [Region.wanted, hgd]
  rw [if_pos hw]
  exact wp_spread_tick s x ho lo v ls hs hown D c xs hx hA hn hlo h
end Go.Proofs.YtmepnilnlpoodaaDoor
