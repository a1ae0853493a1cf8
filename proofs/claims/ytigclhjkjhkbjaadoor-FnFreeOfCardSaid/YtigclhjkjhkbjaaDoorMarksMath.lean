/- Allergens are never lost: an item has all that any item that it uses has; with all of them away it has none.
   Conditions: valid items. -/
import Derived.Test.YtigclhjkjhkbjaaDoorUsesMath
import Derived.Test.YtigclhjkjhkbjaaDoorFree
import Derived.Deep.AppendLies
namespace Go.Proofs.YtigclhjkjhkbjaaDoor
open Go.RowKit

theorem marksFrom_has {s : Int} {b : Nat} : ∀ (l : List Item) (k : Nat) (a : Int), 0 ≤ a → (∀ x ∈ l, 0 ≤ x.marks) →
    (hasB (marksFrom s k l a) b = true ↔ hasB a b = true ∨ ∃ (j : Nat) (x : Item), l[j]? = some x ∧ hasB s (k + j) = true ∧ hasB x.marks b = true)
  | [], _, _, _, _ => by simp [marksFrom]
  | x :: r, k, a, ha, hx => by
    have hr : ∀ y ∈ r, 0 ≤ y.marks := fun y hy => hx y (List.mem_cons_of_mem _ hy)
    rw [marksFrom]
    by_cases hs : hasB s k = true
    · rw [if_pos hs, marksFrom_has r (k + 1) _ orI_nn hr, hasB_join ha (hx x (by simp)), Bool.or_eq_true]
      constructor
      · rintro ((h | h) | ⟨j, y, hj, h1, h2⟩)
        · exact .inl h
        · exact .inr ⟨0, x, rfl, by simpa using hs, h⟩
        · exact .inr ⟨j + 1, y, by simpa using hj, by rw [show k + (j + 1) = k + 1 + j by omega]; exact h1, h2⟩
      · rintro (h | ⟨j, y, hj, h1, h2⟩)
        · exact .inl (.inl h)
        · cases j with
          | zero =>
            obtain rfl : x = y := by simpa using hj
            exact .inl (.inr h2)
          | succ j => exact .inr ⟨j, y, by simpa using hj, by rw [show k + 1 + j = k + (j + 1) by omega]; exact h1, h2⟩
    · rw [if_neg hs, marksFrom_has r (k + 1) _ ha hr]
      constructor
      · rintro (h | ⟨j, y, hj, h1, h2⟩)
        · exact .inl h
        · exact .inr ⟨j + 1, y, by simpa using hj, by rw [show k + (j + 1) = k + 1 + j by omega]; exact h1, h2⟩
      · rintro (h | ⟨j, y, hj, h1, h2⟩)
        · exact .inl h
        · cases j with
          | zero => exact absurd (by simpa using h1) hs
          | succ j => exact .inr ⟨j, y, by simpa using hj, by rw [show k + 1 + j = k + (j + 1) by omega]; exact h1, h2⟩

theorem marks_nn {l : List Item} (h : itemsOk l = true) : ∀ x ∈ l, 0 ≤ x.marks := fun x hx => by
  obtain ⟨i, hi⟩ := List.getElem?_of_mem hx
  exact (itemsOk_at h hi).1

theorem uses_nn {l : List Item} {n : Nat} (h : itemsOk l = true) (hn : n < l.length) : 0 ≤ usesL l n := by
  rw [usesL_eq h hn]
  exact usesGo_nn l (n + 1) (2 ^ n) (Int.pow_nonneg (by omega))

theorem marksL_eq {l : List Item} {n : Nat} (h : itemsOk l = true) (hn : n < l.length) : marksL l n = marksFrom (usesL l n) 0 l 0 := by
  have := uses_nn h hn
  unfold marksL
  rw [if_neg (by omega)]

theorem marks_trans {l : List Item} {n k b : Nat} (h : itemsOk l = true) (hn : n < l.length) (hk : k < l.length) (h1 : hasB (usesL l n) k = true) (h2 : hasB (marksL l k) b = true) : hasB (marksL l n) b = true := by
  rw [marksL_eq h hk, marksFrom_has _ _ _ (by omega) (marks_nn h)] at h2
  rw [marksL_eq h hn, marksFrom_has _ _ _ (by omega) (marks_nn h)]
  rcases h2 with h2 | ⟨j, x, hj, h3, h4⟩
  · exact .inl h2
  · rw [Nat.zero_add] at h3
    exact .inr ⟨j, x, hj, by rw [Nat.zero_add]; exact uses_trans h hn hk h1 h3, h4⟩

theorem marksL_parts {l : List Item} {n : Int} (h : ¬ marksL l n < 0) : itemsOk l = true ∧ 0 ≤ n ∧ n < l.length := by
  refine usesL_parts (n := n) fun hu => ?_
  unfold marksL at h
  rw [if_pos hu] at h
  omega

theorem marksL_neg {l : List Item} {n : Int} (h : marksL l n < 0) : marksL l n = -1 := by
  by_cases hu : usesL l n < 0
  · unfold marksL; rw [if_pos hu]
  · obtain ⟨hok, h0, h1⟩ := usesL_parts hu
    have := (marksL_range hok h0 h1).1
    omega

def clearI (x : Item) : Item := ⟨x.yield, x.parts, 0⟩

theorem itemsGo_clear : ∀ (l : List Item) (k : Int), itemsGo k l = true → itemsGo k (l.map clearI) = true
  | [], _, _ => rfl
  | x :: r, k, h => by
    simp only [List.map_cons, itemsGo, Bool.and_eq_true] at h ⊢
    refine ⟨?_, itemsGo_clear r _ h.2⟩
    have h1 := h.1
    unfold itemOk at h1 ⊢
    rw [Bool.and_eq_true] at h1 ⊢
    exact ⟨by show inR 0 0 31 = true; decide, h1.2⟩

theorem itemsOk_clear {l : List Item} (h : itemsOk l = true) : itemsOk (l.map clearI) = true := by
  unfold itemsOk at h ⊢
  simp only [Bool.and_eq_true, List.length_map] at h ⊢
  exact ⟨h.1, itemsGo_clear _ _ h.2⟩

theorem usesGo_clear (l : List Item) : ∀ (m : Nat) (s : Int), m ≤ l.length → usesGo (l.map clearI) m s = usesGo l m s
  | 0, _, _ => rfl
  | k + 1, s, h => by
    have hk : k < l.length := h
    have e : (l.map clearI).getD k instItem.default = clearI (l.getD k instItem.default) := by simp [List.getD, hk]
    have e2 : stepSet (clearI (l.getD k instItem.default)) k s = stepSet (l.getD k instItem.default) k s := rfl
    show usesGo (l.map clearI) k (stepSet ((l.map clearI).getD k instItem.default) k s) = usesGo l k (stepSet (l.getD k instItem.default) k s)
    rw [e, e2]
    exact usesGo_clear l k _ (by omega)

theorem marksFrom_clear (s : Int) : ∀ (l : List Item) (k : Nat), marksFrom s k (l.map clearI) 0 = 0
  | [], _ => rfl
  | x :: r, k => by
    rw [List.map_cons, marksFrom, show (if hasB s k = true then orI 0 (clearI x).marks else 0) = 0 from by split <;> simp [orI, clearI]]
    exact marksFrom_clear s r (k + 1)

theorem marks_clear {l : List Item} {n : Nat} (h : itemsOk l = true) (hn : n < l.length) : marksL (l.map clearI) n = 0 := by
  rw [marksL_eq (itemsOk_clear h) (by rw [List.length_map]; exact hn)]
  exact marksFrom_clear _ _ _

/-- The slice value v owns, from the first block that W0 has not, the items; their parts are read as in W0. -/
def ItemSB (W0 w : World) (v : Value) (l : List Item) : Prop :=
  ∃ cs : List Value, w.ownsRow W0.heap.size 30 3 v l.length cs ∧ ∀ i x, l[i]? = some x → cs[i * 3]? = some (.int .i64 x.yield) ∧ cs[i * 3 + 2]? = some (.int .i64 x.marks) ∧
    ∃ A c, cs[i * 3 + 1]? = some (.slice A x.parts.length c) ∧ PartsAt W0 A x.parts

theorem ItemSB.form {W0 w : World} {v : Value} {l : List Item} (h : ItemSB W0 w v l) (hb : Below W0.heap.size W0 w) : ∃ A c, v = .slice A l.length c ∧ ItemsAt w A l := by
  obtain ⟨cs, ho, hc⟩ := h
  have hlt := ho.lt
  rcases ho.2 with ⟨hv, hn⟩ | ⟨g, cap, cur, hv, _⟩
  · have : l = [] := List.eq_nil_of_length_eq_zero hn
    subst this
    exact ⟨none, 0, hv, fun i x hx => by simp at hx⟩
  · refine ⟨some ⟨g, 0, none⟩, cap, hv, fun i x hx => ?_⟩
    subst hv
    have hi : i < l.length := (List.getElem?_eq_some_iff.1 hx).1
    obtain ⟨a, b, A, c, e, hp⟩ := hc i x hx
    refine ⟨g, 0, A, c, rfl, (hlt g rfl).2, ?_, ?_, ?_, hp.below hb⟩
    · rw [Nat.zero_add, World.ownsRow.cellAt ho (i * 3) (by omega)]; exact a
    · rw [Nat.zero_add, World.ownsRow.cellAt ho (i * 3 + 1) (by omega)]; exact e
    · rw [Nat.zero_add, World.ownsRow.cellAt ho (i * 3 + 2) (by omega)]; exact b

theorem ItemSB.below {W0 w w' : World} {v : Value} {l : List Item} (h : ItemSB W0 w v l) (hb : Below w.heap.size w w') : ItemSB W0 w' v l := by
  obtain ⟨cs, ho, hc⟩ := h
  refine ⟨cs, ⟨ho.1, ?_⟩, hc⟩
  have hlt := ho.lt
  rcases ho.2 with hn | ⟨g, cap, cur, rfl, hb0, hg, r⟩
  · exact .inl hn
  · exact .inr ⟨g, cap, cur, rfl, hb0, (hb.block g (hlt g rfl).2).trans hg, r⟩

theorem infoI2 : (Tryd.prog.info? 30).map (fun i => (i.zero, i.size, i.bytes)) = some (some (.agg #[.int .i64 0, .slice none 0 0, .int .i64 0]), 3, 40) := by kernel_rfl

/-- Append of one item, in a plain region. -/
theorem wpList_push_itemB {W0 W : World} {ops : Array Oper} {rest : List Oper} {o : Oper} {a : Act} {Q : Exit → Act → World → Prop} (hgd : o.guard = none) (s x : Operand)
    (ho : o.op = .call { callee := .builtin .append, args := #[s, x], argTypes := #[23, 23] }) (v : Value) (l : List Item) (hs : a.eval s = v) (hown : ItemSB W0 W v l) (g : Nat) (it : Item) (A : Option Addr) (c : Nat)
    (hx : a.eval x = .slice (some ⟨g, 0, none⟩) 1 1) (hg : W.heap[g]? = some (.cells #[.int .i64 it.yield, .slice A it.parts.length c, .int .i64 it.marks] 30 (0, 0))) (hp : PartsAt W0 A it.parts) (hn : l.length ≤ 1048576) (hlo : W0.heap.size ≤ W.heap.size)
    (h : ∀ g' cap w', ItemSB W0 w' (.slice (some ⟨g', 0, none⟩) (l.length + 1) cap) (l ++ [it]) → W.grownBy w' v.ownBlock → wpList Tryd.prog ops Q rest (a.put o.dst (.slice (some ⟨g', 0, none⟩) (l.length + 1) cap)) w') :
    wpList Tryd.prog ops Q (o :: rest) a W := by
  obtain ⟨cs, hown, hc⟩ := hown
  have hlen := hown.1
  obtain ⟨i0, hi, hz0, hz1, hz2⟩ := info_parts infoI2
  refine wpList_append_lies W hgd s x 23 ho W0.heap.size 30 i0 _ 3 40 Tryd.underlying23 hi hz0 hz1 hz2 rfl (by decide) v l.length cs hs hown ⟨g, 0, none⟩ 1 1 [.int .i64 it.yield, .slice A it.parts.length c, .int .i64 it.marks] hx rfl
    (World.news_of_block (cs := #[.int .i64 it.yield, .slice A it.parts.length c, .int .i64 it.marks]) hg) (by simp [Value.oneCell']) (by decide) (by unfold maxLen; omega) (by omega) hlo _ rfl ?_
  intro g' cap w' h1 h2 _ _
  refine h g' cap w' ⟨_, by rw [List.length_append]; exact h1, fun i x hx => ?_⟩ h2
  by_cases hi : i < l.length
  · rw [List.getElem?_append_left hi] at hx
    obtain ⟨a1, a2, B, d, e, hp'⟩ := hc i x hx
    exact ⟨by rw [List.getElem?_append_left (by omega)]; exact a1, by rw [List.getElem?_append_left (by omega)]; exact a2, B, d, by rw [List.getElem?_append_left (by omega)]; exact e, hp'⟩
  · have hil : i = l.length := by
      have := (List.getElem?_eq_some_iff.1 hx).1
      simp at this
      omega
    subst hil
    obtain rfl : it = x := by simpa using hx
    refine ⟨?_, ?_, A, c, ?_, hp⟩
    · rw [List.getElem?_append_right (by omega), hlen, Nat.sub_self]; rfl
    · rw [List.getElem?_append_right (by omega), hlen, show l.length * 3 + 2 - l.length * 3 = 2 from by omega]; rfl
    · rw [List.getElem?_append_right (by omega), hlen, show l.length * 3 + 1 - l.length * 3 = 1 from by omega]; rfl
/-- Append of one item, at a step of a region that draws its order. -/
theorem step_push_itemB {W0 W : World} {ops : Array Oper} {o : Oper} {a : Act} {K : Act → World → Prop} {Q : Exit → Act → World → Prop} {E : Prop} (hgd : o.guard = none) (s x : Operand)
    (ho : o.op = .call { callee := .builtin .append, args := #[s, x], argTypes := #[23, 23] }) (v : Value) (l : List Item) (hs : a.eval s = v) (hown : ItemSB W0 W v l) (g : Nat) (it : Item) (A : Option Addr) (c : Nat)
    (hx : a.eval x = .slice (some ⟨g, 0, none⟩) 1 1) (hg : W.heap[g]? = some (.cells #[.int .i64 it.yield, .slice A it.parts.length c, .int .i64 it.marks] 30 (0, 0))) (hp : PartsAt W0 A it.parts) (hn : l.length ≤ 1048576) (hlo : W0.heap.size ≤ W.heap.size)
    (h : ∀ g' cap w', ItemSB W0 w' (.slice (some ⟨g', 0, none⟩) (l.length + 1) cap) (l ++ [it]) → W.grownBy w' v.ownBlock → K (a.put o.dst (.slice (some ⟨g', 0, none⟩) (l.length + 1) cap)) w') :
    if Region.wanted o (yielded ops a.tmps) = true then Oper.wp Tryd.prog o a W K Q else E := by
  obtain ⟨cs, hown, hc⟩ := hown
  have hlen := hown.1
  obtain ⟨i0, hi, hz0, hz1, hz2⟩ := info_parts infoI2
  refine step_append_lies W hgd s x 23 ho W0.heap.size 30 i0 _ 3 40 Tryd.underlying23 hi hz0 hz1 hz2 rfl (by decide) v l.length cs hs hown ⟨g, 0, none⟩ 1 1 [.int .i64 it.yield, .slice A it.parts.length c, .int .i64 it.marks] hx rfl
    (World.news_of_block (cs := #[.int .i64 it.yield, .slice A it.parts.length c, .int .i64 it.marks]) hg) (by simp [Value.oneCell']) (by decide) (by unfold maxLen; omega) (by omega) hlo _ rfl ?_
  intro g' cap w' h1 h2 _ _
  refine h g' cap w' ⟨_, by rw [List.length_append]; exact h1, fun i x hx => ?_⟩ h2
  by_cases hi : i < l.length
  · rw [List.getElem?_append_left hi] at hx
    obtain ⟨a1, a2, B, d, e, hp'⟩ := hc i x hx
    exact ⟨by rw [List.getElem?_append_left (by omega)]; exact a1, by rw [List.getElem?_append_left (by omega)]; exact a2, B, d, by rw [List.getElem?_append_left (by omega)]; exact e, hp'⟩
  · have hil : i = l.length := by
      have := (List.getElem?_eq_some_iff.1 hx).1
      simp at this
      omega
    subst hil
    obtain rfl : it = x := by simpa using hx
    refine ⟨?_, ?_, A, c, ?_, hp⟩
    · rw [List.getElem?_append_right (by omega), hlen, Nat.sub_self]; rfl
    · rw [List.getElem?_append_right (by omega), hlen, show l.length * 3 + 2 - l.length * 3 = 2 from by omega]; rfl
    · rw [List.getElem?_append_right (by omega), hlen, show l.length * 3 + 1 - l.length * 3 = 1 from by omega]; rfl
theorem take_clear {l : List Item} {k : Nat} (h : k < l.length) : (l.take k).map clearI ++ [clearI l[k]] = (l.take (k + 1)).map clearI := by
  rw [List.take_add_one, List.getElem?_eq_getElem h, List.map_append]
  rfl
end Go.Proofs.YtigclhjkjhkbjaaDoor
