/- Tables that a draw owns: what a reader's step keeps, append of a younger row, a store into the first row.
   Conditions: the bounds in each statement. -/
import Derived.Test.YtndcanllkmfahaaDoorDrawTake
namespace Go.Proofs.YtndcanllkmfahaaDoor
open Go.RowKit Go.ChangeShapes Go.WideShapes Go.ChangeAt Go.Deep

theorem ownsRow_from {w w' : World} {lo : Nat} {e : TypeId} {size : Nat} {v : Value} {n : Nat} {xs : List Value} (h : w.ownsRow lo e size v n xs) (hk : ∀ j, lo ≤ j → j < w.heap.size → w'.heap[j]? = w.heap[j]?) : w'.ownsRow lo e size v n xs := by
  have hlt := h.lt
  obtain ⟨h1, h2⟩ := h
  refine ⟨h1, ?_⟩
  rcases h2 with hn | ⟨g, cap, cur, rfl, hb0, hg, r⟩
  · exact .inl hn
  · exact .inr ⟨g, cap, cur, rfl, hb0, (hk g hb0 (hlt g rfl).2).trans hg, r⟩
theorem TabSl.kept {w w' : World} {lo : Nat} {v : Value} {rows : List (List Int)} (h : TabSl w lo v rows) (hk : ∀ j, lo ≤ j → j < w.heap.size → w'.heap[j]? = w.heap[j]?) : TabSl w' lo v rows := by
  obtain ⟨vs, h1, h2, h3⟩ := h
  refine ⟨vs, ownsRow_from h1 hk, fun i x hx => ?_, h3⟩
  obtain ⟨u, hu, hS⟩ := h2 i x hx
  exact ⟨u, hu, ownsRow_from hS hk⟩
theorem kept_pick {w w' : World} {b lo : Nat} (hb : b < lo) (hg : w.grownBy w' (some b)) : ∀ j, lo ≤ j → j < w.heap.size → w'.heap[j]? = w.heap[j]? := fun j hj hl => hg.block j hl (fun e => by injection e with e; omega)
theorem TabSl.pick {w w' : World} {b lo : Nat} {v : Value} {rows : List (List Int)} (h : TabSl w lo v rows) (hb : b < lo) (hg : w.grownBy w' (some b)) : TabSl w' lo v rows := h.kept (kept_pick hb hg)
theorem TabSl.mono {w : World} {lo lo' : Nat} {v : Value} {rows : List (List Int)} (h : TabSl w lo v rows) (hl : lo' ≤ lo) : TabSl w lo' v rows := by
  obtain ⟨vs, h1, h2, h3⟩ := h
  refine ⟨vs, ownsRow_mono h1 hl, fun i x hx => ?_, h3⟩
  obtain ⟨u, hu, hS⟩ := h2 i x hx
  exact ⟨u, hu, ownsRow_mono hS hl⟩
theorem TabSl.own {w : World} {lo : Nat} {v : Value} {rows : List (List Int)} (h : TabSl w lo v rows) : ∀ k, v.ownBlock = some k → lo ≤ k ∧ k < w.heap.size := by
  obtain ⟨vs, h1, _⟩ := h
  exact h1.lt
theorem TabSl.nil0 (w : World) : TabSl (w.alloc (.cells #[] 24)) w.heap.size (.slice (some ⟨w.heap.size, 0, none⟩) 0 0) [] :=
  ⟨[], World.ownsRow_lit w #[] 0 (Nat.le_refl _) (by unfold maxLen; omega) rfl, fun i x hx => by simp at hx, fun i j p p' k hij hp => by simp at hp⟩
theorem TabSl.two {w : World} {lo : Nat} {v : Value} {rows : List (List Int)} (h : TabSl w lo v rows) : (v = .slice none 0 0 ∧ rows = []) ∨ ∃ g c, v = .slice (some ⟨g, 0, none⟩) rows.length c := by
  obtain ⟨vs, h1, _⟩ := h
  rcases h1.2 with ⟨hv, hn⟩ | ⟨g, cap, cur, hv, _⟩
  · exact .inl ⟨hv, List.eq_nil_of_length_eq_zero hn⟩
  · exact .inr ⟨g, cap, hv⟩

theorem wp_push_rowH {W0 W : World} {o : Oper} {a : Act} {K : Act → World → Prop} {Q : Exit → Act → World → Prop} (s x : Operand)
    (ho : o.op = .call { callee := .builtin .append, args := #[s, x], argTypes := #[38, 38] }) (lo : Nat) (v : Value) (rows : List (List Int)) (hs : a.eval s = v) (hown : TabSl W0 lo v rows)
    (hk : ∀ j, lo ≤ j → j < W0.heap.size → W.heap[j]? = W0.heap[j]?) (hsz : W0.heap.size ≤ W.heap.size) (hlo : lo ≤ W0.heap.size) (g : Nat) (u : Value) (y : List Int) (hu : IntSl W W0.heap.size u y)
    (hx : a.eval x = .slice (some ⟨g, 0, none⟩) 1 1) (hg : W.heap[g]? = some (.cells #[u] 24 (0, 0))) (hn : rows.length ≤ 1048576)
    (h : ∀ g' cap w', TabSl w' lo (.slice (some ⟨g', 0, none⟩) (rows.length + 1) cap) (rows ++ [y]) → W.grownBy w' v.ownBlock → K (a.put o.dst (.slice (some ⟨g', 0, none⟩) (rows.length + 1) cap)) w') : o.wp Tryd.prog a W K Q := by
  obtain ⟨vs, h1, h2, h3⟩ := hown
  have h1W := ownsRow_from h1 hk
  have hlen : vs.length = rows.length := by have := h1.1; omega
  obtain ⟨i0, hi, hz0, hz1, hz2⟩ := info_parts infoRow
  refine wp_append_lies W s x 38 ho lo 24 i0 _ 1 24 Tryd.underlying38 hi hz0 hz1 hz2 rfl (by decide) v rows.length vs hs h1W ⟨g, 0, none⟩ 1 1 [u] hx rfl
    (World.news_of_block (cs := #[u]) hg) (by simp [hu.one]) (by decide) (by unfold maxLen; omega) (by omega) (Nat.le_trans hlo hsz) _ rfl ?_
  intro g' cap w' k1 k2 _ _
  have keep : ∀ {z : Value} {l0 : Nat} {zs : List Int}, IntSl W l0 z zs → IntSl w' l0 z zs := fun {z l0 zs} hz => World.ownsRow.kept hz k2 (by
    cases e : z.ownBlock with
    | none => exact .inl rfl
    | some k => exact .inr (fun e' => ownsRow_apart hz h1W (by decide) e e'.symm))
  have young : ∀ {z : Value} {i : Nat}, vs[i]? = some z → ∀ k, z.ownBlock = some k → k < W0.heap.size := fun {z i} hz k hk => by
    have hi : i < rows.length := by have := (List.getElem?_eq_some_iff.1 hz).1; omega
    obtain ⟨z', hz', hS⟩ := h2 i rows[i] (List.getElem?_eq_getElem hi)
    rw [hz] at hz'
    injection hz' with hz'
    subst hz'
    exact (World.ownsRow.lt hS k hk).2
  refine h g' cap w' ⟨vs ++ [u], by rw [List.length_append]; exact k1, fun i z hz => ?_, fun i j p p' k hij hp hp' hk => ?_⟩ k2
  · by_cases hi : i < rows.length
    · rw [List.getElem?_append_left hi] at hz
      obtain ⟨p, hp, hS⟩ := h2 i z hz
      exact ⟨p, by rw [List.getElem?_append_left (by omega)]; exact hp, keep (ownsRow_from hS hk)⟩
    · have hil : i = rows.length := by
        have := (List.getElem?_eq_some_iff.1 hz).1
        simp at this
        omega
      subst hil
      obtain rfl : y = z := by simpa using hz
      exact ⟨u, by rw [List.getElem?_append_right (by omega), hlen, Nat.sub_self]; rfl, keep (ownsRow_mono hu hlo)⟩
  · have hjl := (List.getElem?_eq_some_iff.1 hp').1
    simp only [List.length_append, List.length_cons, List.length_nil] at hjl
    rw [List.getElem?_append_left (by omega)] at hp
    by_cases hj : j < vs.length
    · rw [List.getElem?_append_left hj] at hp'
      exact h3 i j p p' k hij hp hp' hk
    · rw [List.getElem?_append_right (by omega), show j - vs.length = 0 from by omega] at hp'
      obtain rfl : u = p' := by simpa using hp'
      intro hk'
      have a := young hp k hk
      have b := (World.ownsRow.lt hu k hk').1
      omega

/-- A store into the first row: the other rows and the table itself lie elsewhere. -/
theorem TabSl.first {w : World} {lo g n cap : Nat} {rows : List (List Int)} {x : Int} {r : List Int} (h : TabSl w lo (.slice (some ⟨g, 0, none⟩) n cap) rows) (h0 : rows[0]? = some (x :: r)) : ∃ gr c, w.cell? ⟨g, 0, none⟩ = some (.slice (some ⟨gr, 0, none⟩) (r.length + 1) c) ∧ w.cell? ⟨gr, 0, none⟩ = some (.int .i64 x) ∧ w.frozen? ⟨gr, 0, none⟩ = false ∧ lo ≤ gr ∧
    ∀ y : Int, RowsAt (w.setCell ⟨gr, 0, none⟩ (.int .i64 y)) (some ⟨g, 0, none⟩) (rows.set 0 (y :: r)) ∧ w.grownBy (w.setCell ⟨gr, 0, none⟩ (.int .i64 y)) (some gr) := by
  obtain ⟨A, c, e, hI⟩ := h.form
  injection e with e1 e2 e3
  subst e2
  obtain ⟨vs, h1, h2, h3⟩ := h
  obtain ⟨u, hu, hS⟩ := h2 0 _ h0
  obtain ⟨gr, cr, hue, hgl, hgs⟩ := IntSl.own hS (by simp)
  subst hue
  have hsz := hS
  obtain ⟨b, off, A', c', e, hlt, hc, hIx⟩ := hI 0 _ h0
  rw [← e1] at e
  injection e with e
  injection e with ea eb
  subst ea eb
  have hcell : w.cell? ⟨g, 0, none⟩ = some (.slice (some ⟨gr, 0, none⟩) (x :: r).length cr) := by
    have := World.ownsRow.cellAt h1 0 (by have := (List.getElem?_eq_some_iff.1 h0).1; omega)
    rw [this]
    exact hu
  refine ⟨gr, cr, hcell, IntSl.cellAt hS rfl, IntSl.frozenAt hS 0, hgl, fun y => ?_⟩
  have hgr := IntSl.grownSet hS 0 y
  refine ⟨fun i z hz => ?_, hgr⟩
  have hne : g ≠ gr := fun e => ownsRow_apart hS h1 (by decide) rfl (by rw [e]; rfl)
  by_cases hi : i = 0
  · subst hi
    rw [List.getElem?_set_self (List.getElem?_eq_some_iff.1 h0).1] at hz
    obtain rfl := Option.some.inj hz
    refine ⟨g, 0, some ⟨gr, 0, none⟩, cr, rfl, Nat.lt_of_lt_of_le hlt hgr.size, ?_, (IntSl.store hS 0 y).ints⟩
    rw [World.cell?_setCell_far _ _ _ _ (by show gr ≠ g; exact fun e => hne e.symm)]
    exact hcell
  · rw [List.getElem?_set_ne (by omega)] at hz
    obtain ⟨ui, hui, hSi⟩ := h2 i z hz
    obtain ⟨b, off, A', c', e, hlt', hc', hIz⟩ := hI i z hz
    rw [← e1] at e
    injection e with e
    injection e with ea eb
    subst ea eb
    have hSi' := World.ownsRow.kept hSi hgr (by
      cases e : ui.ownBlock with
      | none => exact .inl rfl
      | some k => exact .inr (fun e' => by
        have e' : k = gr := Option.some.inj e'
        exact h3 0 i _ ui k (by omega) hu hui (by rw [e']; rfl) e))
    obtain ⟨A9, c9, he9, hI9, _⟩ := IntSl.form hSi'
    have hcu := World.ownsRow.cellAt h1 i (by have := (List.getElem?_eq_some_iff.1 hz).1; omega)
    rw [hui, he9] at hcu
    refine ⟨g, 0, A9, c9, rfl, Nat.lt_of_lt_of_le hlt' hgr.size, ?_, hI9⟩
    rw [World.cell?_setCell_far _ _ _ _ (by show gr ≠ g; exact fun e => hne e.symm), Nat.zero_add]
    exact hcu
end Go.Proofs.YtndcanllkmfahaaDoor
