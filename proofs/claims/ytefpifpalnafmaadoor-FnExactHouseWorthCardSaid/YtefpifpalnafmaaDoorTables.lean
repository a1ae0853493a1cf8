/- Tables: slices of lists of numbers, read, owned, appended to, stored into; contracts of the helpers that measure, copy and compare them, and the reading of a table among a row's arguments.
   Conditions: the bounds in each statement. -/
import Derived.Test.YtefpifpalnafmaaDoorTakeFirst
import Derived.Test.YtefpifpalnafmaaDoorSums
namespace Go.Proofs.YtefpifpalnafmaaDoor
open Go.RowKit Go.ChangeShapes Go.WideShapes Go.ChangeAt Go.Deep

def RowsAt (w : World) (A : Option Addr) (rows : List (List Int)) : Prop :=
  ∀ i x, rows[i]? = some x → ∃ b off A' c, A = some ⟨b, off, none⟩ ∧ b < w.heap.size ∧ w.cell? ⟨b, off + i, none⟩ = some (.slice A' x.length c) ∧ IntsAt w A' x

theorem RowsAt.below {w w' : World} {A : Option Addr} {rows : List (List Int)} (h : RowsAt w A rows) (hb : Below w.heap.size w w') : RowsAt w' A rows := by
  intro i x hx
  obtain ⟨b, off, A', c, e, hlt, h1, h2⟩ := h i x hx
  exact ⟨b, off, A', c, e, Nat.lt_of_lt_of_le hlt hb.size, (hb.cell hlt).trans h1, h2.below hb⟩

section
variable {H : Type} {enc : TypeId × Value → H} {w : World} {base : Nat} {spare : Nat → Bool} {held : Bool}

end

def szRowsGo : Int → List (List Int) → Int
  | left, [] => left
  | left, x :: r => if left - x.length < 0 then -1 else szRowsGo (left - x.length) r
def szRows (left : Int) (l : List (List Int)) : Int := if left - l.length < 0 then -1 else szRowsGo (left - l.length) l

theorem szRowsGo_le : ∀ (l : List (List Int)) (left : Int), 0 ≤ szRowsGo left l → ∀ x ∈ l, (x.length : Int) ≤ left
  | [], _, _, x, hx => by simp at hx
  | y :: r, left, h, x, hx => by
    unfold szRowsGo at h
    split at h
    · omega
    · rcases List.mem_cons.1 hx with rfl | hx
      · omega
      · have := szRowsGo_le r _ h x hx
        omega

theorem szRows_le {left : Int} {l : List (List Int)} (h1 : left ≤ 1048576) (h : ¬ szRows left l < 0) : l.length ≤ 1048576 ∧ ∀ x ∈ l, x.length ≤ 1048576 := by
  unfold szRows at h
  split at h
  · omega
  · refine ⟨by omega, fun x hx => ?_⟩
    have := szRowsGo_le l (left - l.length) (by omega) x hx
    omega

theorem ownsRow_apart {w : World} {lo lo' : Nat} {e e' : TypeId} {size size' : Nat} {v v' : Value} {n n' : Nat} {xs xs' : List Value} (h : w.ownsRow lo e size v n xs) (h' : w.ownsRow lo' e' size' v' n' xs') (hne : e ≠ e') {k : Nat} (hk : v.ownBlock = some k) : v'.ownBlock ≠ some k := by
  rcases h.2 with ⟨rfl, _⟩ | ⟨g, cap, cur, rfl, _, hg, _⟩
  · cases hk
  · injection hk with hk
    subst hk
    rcases h'.2 with ⟨rfl, _⟩ | ⟨g', cap', cur', rfl, _, hg', _⟩
    · intro h; cases h
    · intro h
      injection h with h
      have h : g' = g := h
      subst h
      rw [hg] at hg'
      injection hg' with hg'
      injection hg' with _ ht _
      exact hne ht

/-- The slice value v owns, from block lo on, a table; its rows are the call's own as well, each in a block of its own. -/
def TabSl (w : World) (lo : Nat) (v : Value) (rows : List (List Int)) : Prop :=
  ∃ vs : List Value, w.ownsRow lo 23 1 v rows.length vs ∧ (∀ (i : Nat) (x : List Int), rows[i]? = some x → ∃ u, vs[i]? = some u ∧ IntSl w lo u x) ∧
    (∀ (i j : Nat) (u u' : Value) (k : Nat), i < j → vs[i]? = some u → vs[j]? = some u' → u.ownBlock = some k → u'.ownBlock ≠ some k)

theorem TabSl.form {w : World} {lo : Nat} {v : Value} {rows : List (List Int)} (h : TabSl w lo v rows) : ∃ A c, v = .slice A rows.length c ∧ RowsAt w A rows := by
  obtain ⟨vs, h1, h2, _⟩ := h
  have hlt := h1.lt
  rcases h1.2 with ⟨hv, hn⟩ | ⟨g, cap, cur, hv, _⟩
  · have : rows = [] := List.eq_nil_of_length_eq_zero hn
    subst this
    exact ⟨none, 0, hv, fun i x hx => by simp at hx⟩
  · refine ⟨some ⟨g, 0, none⟩, cap, hv, fun i p hp => ?_⟩
    subst hv
    have hi : i < rows.length := (List.getElem?_eq_some_iff.1 hp).1
    obtain ⟨u, hu, hS⟩ := h2 i p hp
    obtain ⟨A', c', rfl, hI, _⟩ := hS.form
    refine ⟨g, 0, A', c', rfl, (hlt g rfl).2, ?_, hI⟩
    rw [Nat.zero_add, World.ownsRow.cellAt h1 i (by omega)]
    exact hu

theorem TabSl.rows {w : World} {lo n c : Nat} {A : Option Addr} {rows : List (List Int)} (h : TabSl w lo (.slice A n c) rows) : RowsAt w A rows := by
  obtain ⟨A', c', e, hI⟩ := h.form
  injection e with e
  rw [e]
  exact hI

theorem TabSl.below {w w' : World} {lo : Nat} {v : Value} {rows : List (List Int)} (h : TabSl w lo v rows) (hb : Below w.heap.size w w') : TabSl w' lo v rows := by
  obtain ⟨vs, h1, h2, h3⟩ := h
  refine ⟨vs, ownsRow_below h1 hb, fun i x hx => ?_, h3⟩
  obtain ⟨u, hu, hS⟩ := h2 i x hx
  exact ⟨u, hu, hS.below hb⟩

/-- The copy of an argument: a table of the call's own. -/
def OwnTab (w : World) (g : Nat) (rows : List (List Int)) : Prop := ∃ c, TabSl w g (.slice (some ⟨g, 0, none⟩) rows.length c) rows
theorem OwnTab.below {w w' : World} {g : Nat} {rows : List (List Int)} (h : OwnTab w g rows) (hb : Below w.heap.size w w') : OwnTab w' g rows := by
  obtain ⟨c, h⟩ := h
  exact ⟨c, h.below hb⟩
theorem OwnTab.at_ {w : World} {g : Nat} {rows : List (List Int)} (h : OwnTab w g rows) : RowsAt w (some ⟨g, 0, none⟩) rows := by
  obtain ⟨c, h⟩ := h
  exact h.rows

theorem TabSl.cell {w : World} {lo g n cap : Nat} {rows : List (List Int)} (h : TabSl w lo (.slice (some ⟨g, 0, none⟩) n cap) rows) (j : Nat) (hj : j < rows.length) : ∃ u, w.cell? ⟨g, j, none⟩ = some u := by
  obtain ⟨A, c, e, hI⟩ := h.form
  injection e with e1 e2 e3
  subst e1
  obtain ⟨b, off, A', c', e, _, hc, _⟩ := hI j rows[j] (List.getElem?_eq_getElem hj)
  injection e with e
  injection e with e1 e2
  subst e1 e2
  rw [Nat.zero_add] at hc
  exact ⟨_, hc⟩

theorem TabSl.frozen {w : World} {lo g n cap : Nat} {rows : List (List Int)} (h : TabSl w lo (.slice (some ⟨g, 0, none⟩) n cap) rows) (j : Nat) : w.frozen? ⟨g, j, none⟩ = false := by
  obtain ⟨A, c, e, _⟩ := h.form
  injection e with e1 e2 e3
  subst e2
  obtain ⟨vs, h1, _⟩ := h
  exact World.ownsRow.frozenAt h1 j

theorem TabSl.lt {w : World} {lo g n cap : Nat} {rows : List (List Int)} (h : TabSl w lo (.slice (some ⟨g, 0, none⟩) n cap) rows) : g < w.heap.size := by
  obtain ⟨vs, h1, _⟩ := h
  exact (h1.lt g rfl).2

/-- A row that is younger than the table is stored into it. -/
theorem TabSl.store {W0 w : World} {lo g n cap : Nat} {rows : List (List Int)} (h : TabSl W0 lo (.slice (some ⟨g, 0, none⟩) n cap) rows) (hb : Below W0.heap.size W0 w) (hlo : lo ≤ W0.heap.size) {u : Value} {x : List Int} (hu : IntSl w W0.heap.size u x) (j : Nat) (hj : j < rows.length) :
    TabSl (w.setCell ⟨g, j, none⟩ u) lo (.slice (some ⟨g, 0, none⟩) n cap) (rows.set j x) := by
  obtain ⟨A, c, e, _⟩ := h.form
  injection e with e1 e2 e3
  subst e2
  obtain ⟨vs, h1, h2, h3⟩ := h
  have h1w := ownsRow_below h1 hb
  have hst := World.ownsRow.stored h1w j u
  have hlen : vs.length = rows.length := by have := h1.1; omega
  have keep : ∀ {v : Value} {y : List Int} {l0 : Nat}, IntSl w l0 v y → IntSl (w.setCell ⟨g, j, none⟩ u) l0 v y := fun {v y l0} hv => World.ownsRow.kept hv hst.2 (by
    cases e : v.ownBlock with
    | none => exact .inl rfl
    | some k => exact .inr (fun e' => by
        have e' : some k = some g := e'
        injection e' with e'
        subst e'
        exact ownsRow_apart hv h1w (by decide) e rfl))
  refine ⟨vs.set j u, by rw [List.length_set]; exact hst.1, fun i y hy => ?_, fun i i' v v' k hii hv hv' hk => ?_⟩
  · by_cases e : i = j
    · subst e
      rw [List.getElem?_set_self hj] at hy
      injection hy with hy
      subst hy
      exact ⟨u, List.getElem?_set_self (by omega), keep (ownsRow_mono hu hlo)⟩
    · rw [List.getElem?_set_ne (fun h => e h.symm)] at hy
      obtain ⟨v, hv, hS⟩ := h2 i y hy
      exact ⟨v, by rw [List.getElem?_set_ne (fun h => e h.symm)]; exact hv, keep (hS.below hb)⟩
  · have young : ∀ {v : Value} {i : Nat}, vs[i]? = some v → ∀ k, v.ownBlock = some k → k < W0.heap.size := fun {v i} hv k hk => by
      have hi : i < rows.length := by have := (List.getElem?_eq_some_iff.1 hv).1; omega
      obtain ⟨v', hv', hS⟩ := h2 i rows[i] (List.getElem?_eq_getElem hi)
      rw [hv] at hv'
      injection hv' with hv'
      subst hv'
      exact (World.ownsRow.lt hS k hk).2
    have old := World.ownsRow.lt hu
    by_cases e : i = j
    · subst e
      rw [List.getElem?_set_self (by omega)] at hv
      injection hv with hv
      subst hv
      rw [List.getElem?_set_ne (by omega)] at hv'
      intro hk'
      have a := young hv' k hk'
      have b := (old k hk).1
      omega
    · rw [List.getElem?_set_ne (fun h => e h.symm)] at hv
      by_cases e' : i' = j
      · subst e'
        rw [List.getElem?_set_self (by omega)] at hv'
        injection hv' with hv'
        subst hv'
        intro hk'
        have a := young hv k hk
        have b := (old k hk').1
        omega
      · rw [List.getElem?_set_ne (fun h => e' h.symm)] at hv'
        exact h3 i i' v v' k hii hv hv' hk

theorem infoRow : (Tryd.prog.info? 23).map (fun i => (i.zero, i.size, i.bytes)) = some (some (.slice none 0 0), 1, 24) := by kernel_rfl

/-- The first k rows, and nothing behind them. -/
def fillR (rows : List (List Int)) (k : Nat) : List (List Int) := rows.take k ++ List.replicate (rows.length - k) []
theorem fillR_len (rows : List (List Int)) (k : Nat) : (fillR rows k).length = rows.length := by simp [fillR]; omega
theorem fillR_all (rows : List (List Int)) : fillR rows rows.length = rows := by simp [fillR]
theorem fillR_set {rows : List (List Int)} {k : Nat} {x : List Int} (hx : rows[k]? = some x) : (fillR rows k).set k x = fillR rows (k + 1) := by
  have hk : k < rows.length := (List.getElem?_eq_some_iff.1 hx).1
  have hl : (rows.take k).length = k := by simp; omega
  unfold fillR
  obtain ⟨d, hd⟩ : ∃ d, rows.length - k = d + 1 := ⟨rows.length - k - 1, by omega⟩
  rw [hd, List.replicate_succ, List.set_append_right _ _ (by omega), hl, Nat.sub_self, List.set_cons_zero, List.take_add_one, hx, show rows.length - (k + 1) = d from by omega]
  simp

theorem fillR_zero (w : World) (lo : Nat) (rows : List (List Int)) (hlo : lo ≤ w.heap.size) (hn : rows.length ≤ 1048576) :
    TabSl (w.alloc (.cells (madeCells #[.slice none 0 0] rows.length) 23)) lo (.slice (some ⟨w.heap.size, 0, none⟩) rows.length rows.length) (fillR rows 0) := by
  have hrow := World.rowIs_made w (.slice none 0 0) rows.length 23
  have h0 : fillR rows 0 = List.replicate rows.length [] := by simp [fillR]
  rw [h0]
  refine ⟨List.replicate rows.length (.slice none 0 0), ?_, fun i x hx => ?_, fun i j u u' k _ hu _ hk => ?_⟩
  · rw [List.length_replicate]
    exact ownsRow_of_row (size := 1) (n := rows.length) (by rw [Nat.mul_one]; exact hrow) hlo (by unfold maxLen; omega) (by simp) (fun i hi => by
      rw [Nat.mul_one] at hi
      simp [hi])
  · rw [List.getElem?_replicate] at hx
    split at hx
    · rename_i hi
      injection hx with hx
      subst hx
      exact ⟨.slice none 0 0, by simp [hi], World.ownsRow_nil _ _ _ _⟩
    · cases hx
  · rw [List.getElem?_replicate] at hu
    split at hu
    · injection hu with hu
      subst hu
      cases hk
    · cases hu

theorem heap_other {w : World} {g j k : Nat} {u : Value} (h : k ≠ g) : (w.setCell ⟨g, j, none⟩ u).heap[k]? = w.heap[k]? := heap_setCell_other w ⟨g, j, none⟩ k u (by simp; omega)

/-- A store into the table's own block turns no row of numbers. -/
theorem TabSl.keepRow {w : World} {lo l0 g n cap j : Nat} {rows : List (List Int)} {u v : Value} {y : List Int} (h : TabSl w lo (.slice (some ⟨g, 0, none⟩) n cap) rows) (hv : IntSl w l0 v y) : IntSl (w.setCell ⟨g, j, none⟩ u) l0 v y := by
  obtain ⟨vs, h1, _⟩ := h
  have hs : w.grownBy (w.setCell ⟨g, j, none⟩ u) (some g) := ⟨rfl, rfl, rfl, by simp, fun k _ hk => heap_other (fun e => hk (by rw [e]))⟩
  refine World.ownsRow.kept hv hs ?_
  cases e : v.ownBlock with
  | none => exact .inl rfl
  | some k => exact .inr (fun e' => by
      have e' : some k = some g := e'
      injection e' with e'
      subst e'
      exact ownsRow_apart hv h1 (by decide) e rfl)

theorem LotsAt.far {w : World} {D : Option Addr} {ls : List Lot} {g j : Nat} {u : Value} (h : LotsAt w D ls) (hne : ls = [] ∨ ∀ a, D = some a → a.block ≠ g) : LotsAt (w.setCell ⟨g, j, none⟩ u) D ls := by
  intro i p hp
  replace hne : ∀ a, D = some a → a.block ≠ g := hne.resolve_left (fun e => by rw [e] at hp; simp at hp)
  obtain ⟨b, off, e, hlt, h1, h2⟩ := h i p hp
  have hb := heap_other (w := w) (g := g) (j := j) (u := u) (hne _ e)
  exact ⟨b, off, e, by simpa using hlt, (World.cell?_of_block (a := ⟨b, off + i * 2, none⟩) hb).trans h1, (World.cell?_of_block (a := ⟨b, off + i * 2 + 1, none⟩) hb).trans h2⟩

theorem IntSl.one {w : World} {lo : Nat} {v : Value} {xs : List Int} (h : IntSl w lo v xs) : v.oneCell' = true := by
  obtain ⟨A, c, rfl, _⟩ := h.form
  rfl

theorem fillR_end {rows : List (List Int)} {k : Nat} (h : rows.length ≤ k) : fillR rows k = rows := by
  unfold fillR
  rw [List.take_of_length_le h, show rows.length - k = 0 from by omega]
  simp
end Go.Proofs.YtefpifpalnafmaaDoor
