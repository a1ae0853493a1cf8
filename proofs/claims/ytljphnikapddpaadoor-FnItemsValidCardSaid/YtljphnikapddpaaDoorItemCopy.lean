/- Lists of items that a law owns: a copy of the whole list, and one more item behind it, at a step of a drawn region.
   Conditions: the bounds in each statement. -/
import Derived.Test.YtljphnikapddpaaDoorDraw3
import Derived.Test.YtljphnikapddpaaDoorSpread0
namespace Go.Proofs.YtljphnikapddpaaDoor
open Go.RowKit Go.ChangeShapes Go.WideShapes Go.ChangeAt Go.Deep

theorem ItemSl.belowC {w w' : World} {lo : Nat} {v : Value} {l : List Item} (h : ItemSl w lo v l) (hb : Below w.heap.size w w') : ItemSl w' lo v l :=
  h.kept hb.size (fun j hj => by
    obtain ⟨cs, ho, _⟩ := h
    exact hb.block j (ho.lt j hj).2) (fun A ht a ha => by
    obtain ⟨_, cs, hcs⟩ := ht a ha
    exact hb.block _ (heap_lt hcs))
theorem itemCells_one {w : World} {cs : List Value} {l : List Item} (hl : cs.length = l.length * 3) (hc : ∀ i x, l[i]? = some x → cs[i * 3]? = some (.int .i64 x.yield) ∧ cs[i * 3 + 2]? = some (.int .i64 x.marks) ∧ ∃ A c, cs[i * 3 + 1]? = some (.slice A x.parts.length c) ∧ PartsAt w A x.parts ∧ TB w A 35) : ∀ u ∈ cs, u.oneCell' = true := by
  intro u hu
  obtain ⟨j, hj⟩ := List.getElem?_of_mem hu
  have hjl : j < l.length * 3 := by have := (List.getElem?_eq_some_iff.1 hj).1; omega
  obtain ⟨h0, h2, A, c, h1, -⟩ := hc (j / 3) l[j / 3] (List.getElem?_eq_getElem (by omega))
  rcases (by omega : j = j / 3 * 3 ∨ j = j / 3 * 3 + 1 ∨ j = j / 3 * 3 + 2) with e | e | e
  · rw [e, h0] at hj
    injection hj with hj
    rw [← hj]; rfl
  · rw [e, h1] at hj
    injection hj with hj
    rw [← hj]; rfl
  · rw [e, h2] at hj
    injection hj with hj
    rw [← hj]; rfl
theorem after_items {W w' : World} {lo : Nat} {v : Value} {n : Nat} {xs : List Value} (hown : W.ownsRow lo 38 3 v n xs) (hg : W.grownBy w' v.ownBlock) : ∀ (B : Option Addr), TB W B 35 → ∀ a, B = some a → w'.heap[a.block]? = W.heap[a.block]? := by
  intro B hB a ha
  rcases hown.2 with ⟨rfl, _⟩ | ⟨g0, cap0, cur0, rfl, _, hg0, _⟩
  · obtain ⟨_, cs', hcs'⟩ := hB a ha
    exact hg.block _ (heap_lt hcs') (fun e => by cases e)
  · exact hB.far hg0 (by decide) hg a ha

theorem step_copy_item {W : World} {ops : Array Oper} {o : Oper} {a : Act} {K : Act → World → Prop} {Q : Exit → Act → World → Prop} {E : Prop} (hw : Region.wanted o (yielded ops a.tmps) = true) (s x : Operand)
    (ho : o.op = .call { callee := .builtin .append, args := #[s, x], argTypes := #[31, 31] }) (lo : Nat) (v : Value) (hs : a.eval s = v) (hown : ItemSl W lo v []) (hv : v ≠ .slice none 0 0)
    (g c lo2 : Nat) (l : List Item) (hx : a.eval x = .slice (some ⟨g, 0, none⟩) l.length c) (hA : ItemSl W lo2 (.slice (some ⟨g, 0, none⟩) l.length c) l) (hn : l.length ≤ 1048576) (hlo : lo ≤ W.heap.size)
    (h : ∀ g' cap w', ItemSl w' lo (.slice (some ⟨g', 0, none⟩) l.length cap) l → W.grownBy w' v.ownBlock → K (a.put o.dst (.slice (some ⟨g', 0, none⟩) l.length cap)) w') :
    if Region.wanted o (yielded ops a.tmps) = true then Oper.wp Tryd.prog o a W K Q else E := by
  rw [if_pos hw]
  obtain ⟨i0, hi, hz0, hz1, hz2⟩ := info_parts infoI
  obtain ⟨cs0, ho0, -⟩ := hown
  obtain rfl : cs0 = [] := List.eq_nil_of_length_eq_zero (by have := ho0.1; simpa using this)
  obtain ⟨cs, ho1, hc⟩ := hA
  refine wp_spread s x 31 ho lo 38 i0 _ 3 40 Tryd.underlying31 hi hz0 hz1 hz2 rfl (by decide) v 0 [] hs ho0 hv ⟨g, 0, none⟩ l.length c cs hx ho1.1 (fun j u hu => World.ownsRow.cells ho1 rfl j u hu)
    (itemCells_one ho1.1 hc) (by unfold maxLen; omega) (by omega) hlo ?_
  intro g' cap w' h1 h2
  have hk := after_items ho0 h2
  rw [Nat.zero_add] at h1 ⊢
  rw [List.nil_append] at h1
  refine h g' cap w' ⟨cs, h1, fun i y hy => ?_⟩ h2
  obtain ⟨a1, a2, B, d, e, hp', ht'⟩ := hc i y hy
  exact ⟨a1, a2, B, d, e, hp'.of_block h2.size (hk B ht'), ht'.of_block (hk B ht')⟩
theorem step_push_item {W : World} {ops : Array Oper} {o : Oper} {a : Act} {K : Act → World → Prop} {Q : Exit → Act → World → Prop} {E : Prop} (hw : Region.wanted o (yielded ops a.tmps) = true) (s x : Operand)
    (ho : o.op = .call { callee := .builtin .append, args := #[s, x], argTypes := #[31, 31] }) (lo : Nat) (v : Value) (l : List Item) (hs : a.eval s = v) (hown : ItemSl W lo v l) (g : Nat) (it : Item) (A : Option Addr) (c : Nat)
    (hx : a.eval x = .slice (some ⟨g, 0, none⟩) 1 1) (hg : W.heap[g]? = some (.cells #[.int .i64 it.yield, .slice A it.parts.length c, .int .i64 it.marks] 38 (0, 0))) (hp : PartsAt W A it.parts) (ht : TB W A 35) (hn : l.length ≤ 1048576) (hlo : lo ≤ W.heap.size)
    (h : ∀ g' cap w', ItemSl w' lo (.slice (some ⟨g', 0, none⟩) (l.length + 1) cap) (l ++ [it]) → W.grownBy w' v.ownBlock → K (a.put o.dst (.slice (some ⟨g', 0, none⟩) (l.length + 1) cap)) w') :
    if Region.wanted o (yielded ops a.tmps) = true then Oper.wp Tryd.prog o a W K Q else E := by
  rw [if_pos hw]
  obtain ⟨cs, hown, hc⟩ := hown
  have hlen := hown.1
  obtain ⟨i0, hi, hz0, hz1, hz2⟩ := info_parts infoI
  refine wp_append_lies W s x 31 ho lo 38 i0 _ 3 40 Tryd.underlying31 hi hz0 hz1 hz2 rfl (by decide) v l.length cs hs hown ⟨g, 0, none⟩ 1 1 [.int .i64 it.yield, .slice A it.parts.length c, .int .i64 it.marks] hx rfl
    (World.news_of_block (cs := #[.int .i64 it.yield, .slice A it.parts.length c, .int .i64 it.marks]) hg) (by simp [Value.oneCell']) (by decide) (by unfold maxLen; omega) (by omega) hlo _ rfl ?_
  intro g' cap w' h1 h2 _ _
  have hk := after_items hown h2
  refine h g' cap w' ⟨_, by rw [List.length_append]; exact h1, fun i x hx => ?_⟩ h2
  by_cases hi : i < l.length
  · rw [List.getElem?_append_left hi] at hx
    obtain ⟨a1, a2, B, d, e, hp', ht'⟩ := hc i x hx
    refine ⟨by rw [List.getElem?_append_left (by omega)]; exact a1, by rw [List.getElem?_append_left (by omega)]; exact a2, B, d, by rw [List.getElem?_append_left (by omega)]; exact e, hp'.of_block h2.size (hk B ht'), ht'.of_block (hk B ht')⟩
  · have hil : i = l.length := by
      have := (List.getElem?_eq_some_iff.1 hx).1
      simp at this
      omega
    subst hil
    obtain rfl : it = x := by simpa using hx
    refine ⟨?_, ?_, A, c, ?_, hp.of_block h2.size (hk A ht), ht.of_block (hk A ht)⟩
    · rw [List.getElem?_append_right (by omega), hlen, Nat.sub_self]; rfl
    · rw [List.getElem?_append_right (by omega), hlen, show l.length * 3 + 2 - l.length * 3 = 2 from by omega]; rfl
    · rw [List.getElem?_append_right (by omega), hlen, show l.length * 3 + 1 - l.length * 3 = 1 from by omega]; rfl
end Go.Proofs.YtljphnikapddpaaDoor
