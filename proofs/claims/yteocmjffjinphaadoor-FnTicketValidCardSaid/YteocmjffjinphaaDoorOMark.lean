/- Marks on a kitchen of the call's own whose blocks lie in a stretch: what lies outside of it stays.
   Conditions: the bounds in each statement. -/
import Derived.Test.YteocmjffjinphaaDoorOTables
import Derived.Deep.AppendLies
namespace Go.Proofs.YteocmjffjinphaaDoor
open Go.RowKit Go.ChangeShapes Go.WideShapes Go.ChangeAt Go.Deep

/-- A kitchen of the call's own whose blocks all lie below hi. -/
def TickTo (w : World) (lo hi : Nat) (v : Value) (rows : List (List Order)) : Prop :=
  ∃ vs : List Value, (w.ownsRow lo 54 1 v rows.length vs ∧ (∀ (i : Nat) (x : List Order), rows[i]? = some x → ∃ u, vs[i]? = some u ∧ OrderSl w lo u x) ∧
    (∀ (i j : Nat) (u u' : Value) (k : Nat), i < j → vs[i]? = some u → vs[j]? = some u' → u.ownBlock = some k → u'.ownBlock ≠ some k)) ∧
    (∀ k, v.ownBlock = some k → k < hi) ∧ (∀ (i : Nat) (u : Value) (k : Nat), vs[i]? = some u → u.ownBlock = some k → k < hi)
theorem TickTo.sl {w : World} {lo hi : Nat} {v : Value} {rows : List (List Order)} (h : TickTo w lo hi v rows) : TickSl w lo v rows := by
  obtain ⟨vs, h1, _⟩ := h
  exact ⟨vs, h1⟩
theorem TickSl.to {w : World} {lo : Nat} {v : Value} {rows : List (List Order)} (h : TickSl w lo v rows) : TickTo w lo w.heap.size v rows := by
  obtain ⟨vs, h1, h2, h3⟩ := h
  refine ⟨vs, ⟨h1, h2, h3⟩, fun k hk => (h1.lt k hk).2, fun i u k hu hk => ?_⟩
  have hi : i < rows.length := by have := (List.getElem?_eq_some_iff.1 hu).1; have := h1.1; omega
  obtain ⟨u', hu', hS⟩ := h2 i rows[i] (List.getElem?_eq_getElem hi)
  rw [hu] at hu'
  injection hu' with hu'
  subst hu'
  exact (World.ownsRow.lt hS k hk).2
theorem TickTo.below {w w' : World} {lo hi : Nat} {v : Value} {rows : List (List Order)} (h : TickTo w lo hi v rows) (hb : Below w.heap.size w w') : TickTo w' lo hi v rows := by
  obtain ⟨vs, ⟨h1, h2, h3⟩, h4⟩ := h
  refine ⟨vs, ⟨ownsRow_below h1 hb, fun i x hx => ?_, h3⟩, h4⟩
  obtain ⟨u, hu, hS⟩ := h2 i x hx
  exact ⟨u, hu, hS.below hb⟩

/-- What lies outside of the stretch stays. -/
structure Mid (lo hi : Nat) (w w' : World) : Prop where
  os : w'.os = w.os
  tape : w'.tape = w.tape
  output : w'.output = w.output
  size : w.heap.size ≤ w'.heap.size
  block : ∀ k, k < w.heap.size → (k < lo ∨ hi ≤ k) → w'.heap[k]? = w.heap[k]?
theorem Mid.refl (lo hi : Nat) (w : World) : Mid lo hi w w := ⟨rfl, rfl, rfl, Nat.le_refl _, fun _ _ _ => rfl⟩
theorem Mid.trans {lo hi : Nat} {a b c : World} (h : Mid lo hi a b) (k : Mid lo hi b c) : Mid lo hi a c :=
  ⟨k.os.trans h.os, k.tape.trans h.tape, k.output.trans h.output, Nat.le_trans h.size k.size, fun i hi h2 => (k.block i (Nat.lt_of_lt_of_le hi h.size) h2).trans (h.block i hi h2)⟩
theorem Mid.ofGrown {lo hi : Nat} {w w' : World} {row : Option Nat} (h : w.grownBy w' row) (hr : ∀ j, row = some j → lo ≤ j ∧ j < hi) : Mid lo hi w w' :=
  ⟨h.os, h.tape, h.output, h.size, fun k hk h2 => h.block k hk (fun e => by have := hr k e.symm; omega)⟩
theorem Mid.below {lo hi : Nat} {w w' : World} (h : Mid lo hi w w') (hlo : lo ≤ w.heap.size) : Below lo w w' :=
  ⟨h.os, h.tape, h.output, h.size, fun k hk => h.block k (by omega) (.inl hk)⟩
theorem TickSl.mid {w w' : World} {lo lo' hi : Nat} {v : Value} {rows : List (List Order)} (h : TickSl w lo' v rows) (hm : Mid lo hi w w') (hh : hi ≤ lo') : TickSl w' lo' v rows := by
  obtain ⟨vs, h1, h2, h3⟩ := h
  have far : ∀ {e : TypeId} {size n : Nat} {z : Value} {zs : List Value}, w.ownsRow lo' e size z n zs → w'.ownsRow lo' e size z n zs := fun {e size n z zs} hz => by
    have hlt := hz.lt
    obtain ⟨g1, g2⟩ := hz
    refine ⟨g1, ?_⟩
    rcases g2 with hn | ⟨g, cap, cur, rfl, hb0, hg, r⟩
    · exact .inl hn
    · exact .inr ⟨g, cap, cur, rfl, hb0, (hm.block g (hlt g rfl).2 (.inr (by omega))).trans hg, r⟩
  refine ⟨vs, far h1, fun i x hx => ?_, h3⟩
  obtain ⟨u, hu, hS⟩ := h2 i x hx
  exact ⟨u, hu, far hS⟩

/-- Row i of a table that the call owns, and what becomes of the table when the row's numbers turn. -/
theorem TickTo.at_ {w : World} {lo g n cap : Nat} {rows : List (List Order)} {hi : Nat} (h : TickTo w lo hi (.slice (some ⟨g, 0, none⟩) n cap) rows) {i : Nat} {x : List Order} (hx : rows[i]? = some x) :
    ∃ A' c', w.cell? ⟨g, i, none⟩ = some (.slice A' x.length c') ∧ OrderSl w lo (.slice A' x.length c') x ∧ g < w.heap.size ∧ (∀ k, (Value.slice A' x.length c').ownBlock = some k → lo ≤ k ∧ k < hi) ∧
      ∀ w' y, y.length = x.length → OrderSl w' lo (.slice A' x.length c') y → w.grownBy w' (Value.slice A' x.length c').ownBlock → TickTo w' lo hi (.slice (some ⟨g, 0, none⟩) n cap) (rows.set i y) := by
  obtain ⟨A, c, e, _⟩ := h.sl.form
  injection e with e1 e2 e3
  subst e2
  obtain ⟨vs, ⟨h1, h2, h3⟩, h4, h5⟩ := h
  have hil : i < rows.length := (List.getElem?_eq_some_iff.1 hx).1
  have hlen : vs.length = rows.length := by have := h1.1; omega
  obtain ⟨u, hu, hS⟩ := h2 i x hx
  obtain ⟨A', c', rfl, _⟩ := hS.form
  refine ⟨A', c', ?_, hS, (h1.lt g rfl).2, fun k hk => ⟨(World.ownsRow.lt hS k hk).1, h5 i _ k hu hk⟩, fun w' y hy hS' hg => ⟨vs, ⟨?_, fun j z hz => ?_, h3⟩, h4, h5⟩⟩
  · rw [World.ownsRow.cellAt h1 i (by omega)]
    exact hu
  · rw [List.length_set]
    refine World.ownsRow.kept h1 hg (.inr (fun e => ?_))
    have e : some g = (Value.slice A' x.length c').ownBlock := e
    exact ownsRow_apartT hS h1 (by decide) e.symm rfl
  · by_cases e : j = i
    · subst e
      rw [List.getElem?_set_self hil] at hz
      injection hz with hz
      subst hz
      exact ⟨_, hu, hS'⟩
    · rw [List.getElem?_set_ne (fun h => e h.symm)] at hz
      obtain ⟨v, hv, hT⟩ := h2 j z hz
      refine ⟨v, hv, World.ownsRow.kept hT hg ?_⟩
      cases e1 : v.ownBlock with
      | none => exact .inl rfl
      | some k =>
        refine .inr (fun e2 => ?_)
        rcases Nat.lt_or_gt_of_ne e with hlt | hgt
        · exact h3 j i v _ k hlt hv hu e1 e2.symm
        · exact h3 i j _ v k hgt hu hv e2.symm e1

/-- A write below a kitchen's blocks leaves it. -/
theorem TickTo.grown {w w' : World} {lo hi k : Nat} {v : Value} {rows : List (List Order)} (h : TickTo w lo hi v rows) (hg : w.grownBy w' (some k)) (hk : k < lo) : TickTo w' lo hi v rows := by
  obtain ⟨vs, ⟨h1, h2, h3⟩, h4, h5⟩ := h
  have far : ∀ {e : TypeId} {size n : Nat} {z : Value} {zs : List Value}, w.ownsRow lo e size z n zs → w'.ownsRow lo e size z n zs := fun {e size n z zs} hz => World.ownsRow.kept hz hg (by
    cases e1 : z.ownBlock with
    | none => exact .inl rfl
    | some j => exact .inr (fun e2 => by injection e2 with e2; have := (hz.lt j e1).1; omega))
  refine ⟨vs, ⟨far h1, fun i x hx => ?_, h3⟩, h4, h5⟩
  obtain ⟨u, hu, hS⟩ := h2 i x hx
  exact ⟨u, hu, far hS⟩

end Go.Proofs.YteocmjffjinphaaDoor
