/- Contracts of the draws of lists of items.
   Conditions: the bounds in each statement. -/
import Derived.Test.YtjegebnnlomcpaaDoorDraw2
namespace Go.Proofs.YtjegebnnlomcpaaDoor
open Go.RowKit

theorem PartsAt.of_block {w w' : World} {A : Option Addr} {ps : List Part} (h : PartsAt w A ps) (hs : w.heap.size ≤ w'.heap.size) (hb : ∀ a, A = some a → w'.heap[a.block]? = w.heap[a.block]?) : PartsAt w' A ps := by
  intro i p hp
  obtain ⟨b, off, e, hlt, h1, h2⟩ := h i p hp
  have := hb _ e
  exact ⟨b, off, e, Nat.lt_of_lt_of_le hlt hs, (World.cell?_of_block (a := ⟨b, off + i * 2, none⟩) this).trans h1, (World.cell?_of_block (a := ⟨b, off + i * 2 + 1, none⟩) this).trans h2⟩

theorem TB.far {w w' : World} {A : Option Addr} {t t' : TypeId} {r : Nat} {c : Array Value} {fr : Nat × Nat} (h : TB w A t) (hr : w.heap[r]? = some (.cells c t' fr)) (hne : t' ≠ t) (hg : w.grownBy w' (some r)) : ∀ a, A = some a → w'.heap[a.block]? = w.heap[a.block]? := by
  intro a ha
  obtain ⟨_, cs, hcs⟩ := h a ha
  refine hg.block _ (heap_lt hcs) (fun e => ?_)
  injection e with e
  rw [e, hr] at hcs
  injection hcs with hcs
  injection hcs with _ h2
  exact hne h2

theorem TB.of_block {w w' : World} {A : Option Addr} {t : TypeId} (h : TB w A t) (hb : ∀ a, A = some a → w'.heap[a.block]? = w.heap[a.block]?) : TB w' A t := fun a ha => by
  obtain ⟨h1, cs, h2⟩ := h a ha
  exact ⟨h1, cs, (hb a ha).trans h2⟩

/-- The slice value v owns, from block lo on, the items. -/
def ItemSl (w : World) (lo : Nat) (v : Value) (l : List Item) : Prop :=
  ∃ cs : List Value, w.ownsRow lo 39 3 v l.length cs ∧ ∀ i x, l[i]? = some x → cs[i * 3]? = some (.int .i64 x.yield) ∧ cs[i * 3 + 2]? = some (.int .i64 x.marks) ∧
    ∃ A c, cs[i * 3 + 1]? = some (.slice A x.parts.length c) ∧ PartsAt w A x.parts ∧ TB w A 52

theorem ItemSl.kept {w w' : World} {lo : Nat} {v : Value} {l : List Item} (h : ItemSl w lo v l) (hs : w.heap.size ≤ w'.heap.size) (h1 : ∀ j, v.ownBlock = some j → w'.heap[j]? = w.heap[j]?) (h2 : ∀ (A : Option Addr), TB w A 52 → ∀ a, A = some a → w'.heap[a.block]? = w.heap[a.block]?) : ItemSl w' lo v l := by
  obtain ⟨cs, ho, hc⟩ := h
  refine ⟨cs, ⟨ho.1, ?_⟩, fun i x hx => ?_⟩
  · rcases ho.2 with hn | ⟨g, cap, cur, rfl, hb, hg, r⟩
    · exact .inl hn
    · exact .inr ⟨g, cap, cur, rfl, hb, (h1 g rfl).trans hg, r⟩
  · obtain ⟨a, b, A, c, e, hp, ht⟩ := hc i x hx
    exact ⟨a, b, A, c, e, hp.of_block hs (h2 A ht), ht.of_block (h2 A ht)⟩

theorem ItemSl.alloc {w : World} {lo : Nat} {v : Value} {l : List Item} (h : ItemSl w lo v l) (o : Obj) : ItemSl (w.alloc o) lo v l := by
  have ho := h
  obtain ⟨cs, ho, _⟩ := ho
  refine h.kept (by simp) (fun j hj => heap_alloc_old w _ (ho.lt j hj).2) (fun A ht a ha => ?_)
  obtain ⟨_, cs, hcs⟩ := ht a ha
  exact heap_alloc_old w _ (heap_lt hcs)

theorem ItemSl.pick {w w' : World} {lo b n : Nat} {v : Value} {l : List Item} (h : ItemSl w lo v l) (hR : Rd w b n) (hb : b < lo) (hg : w.grownBy w' (some b)) : ItemSl w' lo v l := by
  have ho := h
  obtain ⟨cs, ho, _⟩ := ho
  obtain ⟨_, _, _, _, _, _, hR, _⟩ := hR
  exact h.kept hg.size (fun j hj => hg.block j (ho.lt j hj).2 (fun e => by injection e with e; have := (ho.lt j hj).1; omega)) (fun A ht => ht.far hR (by decide) hg)

theorem ItemSl.form {w : World} {lo : Nat} {v : Value} {l : List Item} (h : ItemSl w lo v l) : ∃ A c, v = .slice A l.length c ∧ ItemsAt w A l := by
  obtain ⟨cs, ho, hc⟩ := h
  have hlt := ho.lt
  rcases ho.2 with ⟨hv, hn⟩ | ⟨g, cap, cur, hv, _⟩
  · have : l = [] := List.eq_nil_of_length_eq_zero hn
    subst this
    exact ⟨none, 0, hv, fun i x hx => by simp at hx⟩
  · refine ⟨some ⟨g, 0, none⟩, cap, hv, fun i x hx => ?_⟩
    subst hv
    have hi : i < l.length := (List.getElem?_eq_some_iff.1 hx).1
    obtain ⟨a, b, A, c, e, hp, _⟩ := hc i x hx
    refine ⟨g, 0, A, c, rfl, (hlt g rfl).2, ?_, ?_, ?_, hp⟩
    · rw [Nat.zero_add, World.ownsRow.cellAt ho (i * 3) (by omega)]; exact a
    · rw [Nat.zero_add, World.ownsRow.cellAt ho (i * 3 + 1) (by omega)]; exact e
    · rw [Nat.zero_add, World.ownsRow.cellAt ho (i * 3 + 2) (by omega)]; exact b

theorem infoI : (Tryd.prog.info? 39).map (fun i => (i.zero, i.size, i.bytes)) = some (some (.agg #[.int .i64 0, .slice none 0 0, .int .i64 0]), 3, 40) := by kernel_rfl

/-- Append of one item, in a plain region. -/
theorem wpList_push_item {W : World} {ops : Array Oper} {rest : List Oper} {o : Oper} {a : Act} {Q : Exit → Act → World → Prop} (hgd : o.guard = none) (s x : Operand)
    (ho : o.op = .call { callee := .builtin .append, args := #[s, x], argTypes := #[23, 23] }) (lo : Nat) (v : Value) (l : List Item) (hs : a.eval s = v) (hown : ItemSl W lo v l) (g : Nat) (it : Item) (A : Option Addr) (c : Nat)
    (hx : a.eval x = .slice (some ⟨g, 0, none⟩) 1 1) (hg : W.heap[g]? = some (.cells #[.int .i64 it.yield, .slice A it.parts.length c, .int .i64 it.marks] 39 (0, 0))) (hp : PartsAt W A it.parts) (ht : TB W A 52) (hn : l.length ≤ 1048576) (hlo : lo ≤ W.heap.size)
    (h : ∀ g' cap w', ItemSl w' lo (.slice (some ⟨g', 0, none⟩) (l.length + 1) cap) (l ++ [it]) → W.grownBy w' v.ownBlock → wpList Tryd.prog ops Q rest (a.put o.dst (.slice (some ⟨g', 0, none⟩) (l.length + 1) cap)) w') :
    wpList Tryd.prog ops Q (o :: rest) a W := by
  obtain ⟨cs, hown, hc⟩ := hown
  have hlen := hown.1
  obtain ⟨i0, hi, hz0, hz1, hz2⟩ := info_parts infoI
  refine wpList_append_lies W hgd s x 23 ho lo 39 i0 _ 3 40 Tryd.underlying23 hi hz0 hz1 hz2 rfl (by decide) v l.length cs hs hown ⟨g, 0, none⟩ 1 1 [.int .i64 it.yield, .slice A it.parts.length c, .int .i64 it.marks] hx rfl
    (World.news_of_block (cs := #[.int .i64 it.yield, .slice A it.parts.length c, .int .i64 it.marks]) hg) (by simp [Value.oneCell']) (by decide) (by unfold maxLen; omega) (by omega) hlo _ rfl ?_
  intro g' cap w' h1 h2 _ _
  have hk : ∀ (B : Option Addr), TB W B 52 → ∀ a, B = some a → w'.heap[a.block]? = W.heap[a.block]? := by
    intro B hB a ha
    rcases hown.2 with ⟨rfl, _⟩ | ⟨g0, cap0, cur0, rfl, _, hg0, _⟩
    · obtain ⟨_, cs', hcs'⟩ := hB a ha
      exact h2.block _ (heap_lt hcs') (fun e => by cases e)
    · exact hB.far hg0 (by decide) h2 a ha
  refine h g' cap w' ⟨_, by rw [List.length_append]; exact h1, fun i x hx => ?_⟩ h2
  by_cases hi : i < l.length
  · rw [List.getElem?_append_left hi] at hx
    obtain ⟨a1, a2, B, d, e, hp', ht'⟩ := hc i x hx
    refine ⟨by rw [List.getElem?_append_left (by omega)]; exact a1, by rw [List.getElem?_append_left (by omega)]; exact a2, B, d, by rw [List.getElem?_append_left (by omega)]; exact e, hp'.of_block h2.size (hk B ht'), ht'.of_block (hk B ht')⟩
  · have hil : i = l.length := by
      have := (List.getElem?_eq_some_iff.1 hx).1
      simp at this
      omega
    subst hil
    obtain rfl : it = x := by simpa using hx
    refine ⟨?_, ?_, A, c, ?_, hp.of_block h2.size (hk A ht), ht.of_block (hk A ht)⟩
    · rw [List.getElem?_append_right (by omega), hlen, Nat.sub_self]; rfl
    · rw [List.getElem?_append_right (by omega), hlen, show l.length * 3 + 2 - l.length * 3 = 2 from by omega]; rfl
    · rw [List.getElem?_append_right (by omega), hlen, show l.length * 3 + 1 - l.length * 3 = 1 from by omega]; rfl

theorem PartsAt.alloc {w : World} {A : Option Addr} {ps : List Part} (h : PartsAt w A ps) (o : Obj) : PartsAt (w.alloc o) A ps := h.below ((Below.refl _ _).alloc (Nat.le_refl _) _)
theorem TB.alloc {w : World} {A : Option Addr} {t : TypeId} (h : TB w A t) (o : Obj) : TB (w.alloc o) A t := h.of_block (fun a ha => by
  obtain ⟨_, cs, hcs⟩ := h a ha
  exact heap_alloc_old w _ (heap_lt hcs))

def zeroItem : Item := ⟨0, [], 0⟩
theorem seven_items (w : World) (lo : Nat) (hlo : lo ≤ w.heap.size) : ItemSl (w.alloc (.cells (madeCells #[.int .i64 0, .slice none 0 0, .int .i64 0] 21) 39)) lo (.slice (some ⟨w.heap.size, 0, none⟩) 7 7) (List.replicate 7 zeroItem) := by
  refine ⟨(madeCells #[.int .i64 0, .slice none 0 0, .int .i64 0] 21).toList, World.ownsRow_lit w _ 7 hlo (by unfold maxLen; omega) (size_madeCells _ _), fun i x hx => ?_⟩
  have hi : i < 7 := by
    have := (List.getElem?_eq_some_iff.1 hx).1
    simpa using this
  have hxe : zeroItem = x := by
    rw [List.getElem?_replicate, if_pos hi] at hx
    simpa using hx
  subst hxe
  have hn : ∀ A, PartsAt (w.alloc (.cells (madeCells #[.int .i64 0, .slice none 0 0, .int .i64 0] 21) 39)) A zeroItem.parts := fun A i p hp => by simp [zeroItem] at hp
  match i, hi with
  | 0, _ | 1, _ | 2, _ | 3, _ | 4, _ | 5, _ | 6, _ => exact ⟨by simp [madeCells, zeroItem], by simp [madeCells, zeroItem], none, 0, by simp [madeCells, zeroItem], hn none, fun a ha => by cases ha⟩

def DrewLi (w : World) (b n : Nat) (e : Ending) (w' : World) : Prop := ∃ (l : List Item) (v : Value), e = .returned v ∧ ItemSl w' w.heap.size v l ∧ l.length ≤ 7 ∧ (∀ x ∈ l, x.parts.length ≤ 5) ∧ Rd w' b (n + 160) ∧ w.grownBy w' (some b)

theorem grown_push {w wr w' : World} {b lo : Nat} {v : Value} {l : List Item} (h : w.grownBy wr (some b)) (hs : ItemSl wr lo v l) (hlo : w.heap.size ≤ lo) (o : Obj) (hg : (wr.alloc o).grownBy w' v.ownBlock) : w.grownBy w' (some b) := by
  obtain ⟨cs, ho, _⟩ := hs
  have hz := h.size
  exact ⟨hg.os.trans h.os, hg.tape.trans h.tape, hg.output.trans h.output, by have := hg.size; simp at this; omega, fun j hj hne =>
    (hg.block j (by simp; omega) (fun e => by have := (ho.lt j e.symm).1; omega)).trans ((heap_alloc_old wr _ (by omega)).trans (h.block j hj hne))⟩

theorem rd_push {wr w' : World} {b n lo : Nat} {v : Value} {l : List Item} (hR : Rd wr b n) (hs : ItemSl wr lo v l) (hlo : b < lo) (o : Obj) (hg : (wr.alloc o).grownBy w' v.ownBlock) : Rd w' b n := by
  obtain ⟨cs, ho, _⟩ := hs
  have hb := hR.lt
  exact hR.kept (fun j hj => (hg.block j (by simp; omega) (fun e => by have := (ho.lt j e.symm).1; omega)).trans (heap_alloc_old wr _ (by omega)))

set_option maxRecDepth 100000 in
set_option maxHeartbeats 4000000 in
theorem l20Items_any (b n : Nat) (k : Int) (w : World) (hR : Rd w b n) (hn : n ≤ 80000) (hk : k ≤ 1000000) :
    Calls Tryd.prog 11 #[.pointer (some ⟨b, 0, none⟩), .int .i64 k] w (DrewLi w b n) := by
  have hblt := hR.lt
  have hown0 : ItemSl (w.alloc (.cells #[] 39)) w.heap.size (.slice (some ⟨w.heap.size, 0, none⟩) 0 0) [] := ⟨[], World.ownsRow_lit w #[] 0 (Nat.le_refl _) (by unfold maxLen; omega) rfl, fun i x hx => by simp at hx⟩
  have HO := hide hown0
  have hRa : Rd (w.alloc (.cells #[] 39)) b n := hR.kept (fun j hj => heap_alloc_old w _ (by omega))
  have HRA := hide hRa
  clear hown0 hRa
  go_enter Tryd.func11, Tryd.ntmps11
  go_wp2_with fail
  refine (pick_any b n 7 _ HRA.out (by omega) (by omega)).mono ?_
  rintro e w1 ⟨q, rfl, hq0, hq1, hR1, hg1⟩
  have HS1 : Hid (ItemSl w1 w.heap.size (.slice (some ⟨w.heap.size, 0, none⟩) 0 0) []) := hide (HO.out.pick HRA.out hblt hg1)
  have HG1 : Hid (w.grownBy w1 (some b)) := hide ((World.grownBy_alloc w _ _).trans hg1)
  have HR1 := hide hR1
  clear hg1 hR1
  go_wp2_with fail
  go_loopw [5, 6] (fun v i wr => ∃ (j : Nat) (l : List Item), j ≤ 6 ∧ i = .int .i64 j ∧ l.length + j ≤ 6 ∧ Hid (∀ x ∈ l, x.parts.length ≤ 5) ∧ ItemSl wr w.heap.size v l ∧ Rd wr b (n + 1 + 20 * l.length) ∧ w.grownBy wr (some b)) (fun _ i _ => (intOf i).toNat)
  case atStart => exact ⟨q.toNat, [], by omega, by rw [Int.toNat_of_nonneg hq0], by simp; omega, hide (fun x hx => by simp at hx), HS1.out, HR1.out, HG1.out⟩
  case round =>
    obtain ⟨j, l, hj, rfl, hlj, HL, hS, hRr, hgr⟩ := hrel
    have HS := hide hS
    obtain ⟨A, c, hv, -⟩ := hS.form
    subst hv
    have HGR := hide (And.intro hRr hgr)
    have hzr := hgr.size
    clear hS hgr
    by_cases hj0 : 0 < j
    · have hjz : (0 : Int) < j := by omega
      go_wp2_with fail
      refine (l20Item_any b _ l.length 0 _ hRr (by omega) (by omega) (by omega) (by omega)).mono ?_
      rintro e w2 ⟨x, A2, c2, rfl, hp2, ht2, hx5, hR2, hg2⟩
      have hS2 := HS.out.pick HGR.out.1 hblt hg2
      have hG2 := HGR.out.2.trans hg2
      have HX := hide (And.intro hp2 (And.intro ht2 (And.intro hS2 (And.intro hR2 hG2))))
      have hz2 := hg2.size
      clear hp2 ht2 hS2 hR2 hG2 hg2
      have hzw : w.heap.size ≤ w2.heap.size := HX.out.2.2.2.2.size
      go_wp2_with (at_builtin; refine wpList_push_item rfl _ _ rfl w.heap.size (.slice A l.length c) l rfl (HX.out.2.2.1.alloc _) w2.heap.size x A2 c2 rfl (heap_alloc_new w2 _) (HX.out.1.alloc _) (HX.out.2.1.alloc _) (by omega) (by simp; omega) ?_; intro g' cap w3 hown hgrow; have HOW := hide (And.intro hown (And.intro (rd_push HX.out.2.2.2.1 HX.out.2.2.1 hblt _ hgrow) (grown_push HX.out.2.2.2.2 HX.out.2.2.1 (Nat.le_refl _) _ hgrow))); clear hown hgrow)
      go_roundw
      case rel =>
        obtain ⟨j', rfl⟩ : ∃ j', j = j' + 1 := ⟨j - 1, by omega⟩
        refine ⟨j', l ++ [x], by omega, by go_num, by simp; omega, hide (fun y hy => ?_), HOW.out.1, HOW.out.2.1.mono (by simp; omega), HOW.out.2.2⟩
        rcases List.mem_append.1 hy with h | h
        · exact HL.out y h
        · obtain rfl : y = x := by simpa using h
          exact hx5
      case measure => simp [intOf]; omega
    · obtain rfl : j = 0 := by omega
      go_wp2_with fail
      refine (odd_any b _ k _ hRr (by omega) hk).mono ?_
      rintro e w2 ⟨β, rfl, hR2, hg2⟩
      have hS2 := HS.out.pick HGR.out.1 hblt hg2
      have hG2 := HGR.out.2.trans hg2
      have HX := hide (And.intro hS2 (And.intro hR2 hG2))
      clear hS2 hG2 hg2
      cases β with
      | false =>
        go_wp2_with fail
        refine bodyPost_ret (results_tmp rfl _ _ _) rfl ⟨l, .slice A l.length c, rfl, HX.out.1, by omega, HL.out, HX.out.2.1.mono (by omega), HX.out.2.2⟩
      | true =>
        go_wp2_with fail
        refine (pick_any b _ 3 _ hR2 (by omega) (by omega)).mono ?_
        rintro e w3 ⟨q3, rfl, hq30, hq31, hR3, hg3⟩
        have hS3 := HX.out.1.pick HX.out.2.1 hblt hg3
        have hG3 := HX.out.2.2.trans hg3
        have HY := hide (And.intro hS3 (And.intro hR3 hG3))
        have hz3 := hG3.size
        clear hS3 hG3 hg3
        by_cases hq : q3 = 0
        · subst hq
          have hmk : ∀ w, (Instr.makeSlice 23 (.int .i64 7) (.int .i64 7)).run Tryd.prog w = .ok (.slice (some ⟨w.heap.size, 0, none⟩) 7 7) (w.alloc (.cells (madeCells #[.int .i64 0, .slice none 0 0, .int .i64 0] 21) 39)) := fun w => make_items 7 (by omega) w
          go_wp2_with fail
          refine bodyPost_ret (results_tmp rfl _ _ _) rfl ⟨List.replicate 7 zeroItem, .slice (some ⟨w3.heap.size, 0, none⟩) 7 7, rfl, seven_items w3 _ hz3, by simp, fun x hx => ?_, ?_, HY.out.2.2.trans (World.grownBy_alloc w3 _ _)⟩
          · obtain rfl := (List.mem_replicate.1 hx).2
            simp [zeroItem]
          · exact (HY.out.2.1.kept (fun j hj => heap_alloc_old w3 _ (by have := HY.out.2.1.lt; omega))).mono (by omega)
        · have hqb : (q3 == 0) = false := by simpa using hq
          go_wp2_with fail
          refine (l20Item_any b _ l.length 1 _ hR3 (by omega) (by omega) (by omega) (by omega)).mono ?_
          rintro e w4 ⟨x, A2, c2, rfl, hp2, ht2, hx5, hR4, hg4⟩
          have hS4 := HY.out.1.pick HY.out.2.1 hblt hg4
          have hG4 := HY.out.2.2.trans hg4
          have HZ := hide (And.intro hp2 (And.intro ht2 (And.intro hS4 (And.intro hR4 hG4))))
          have hz4 := hG4.size
          clear hp2 ht2 hS4 hR4 hG4 hg4
          go_wp2_with (at_builtin; refine wpList_push_item rfl _ _ rfl w.heap.size (.slice A l.length c) l rfl (HZ.out.2.2.1.alloc _) w4.heap.size x A2 c2 rfl (heap_alloc_new w4 _) (HZ.out.1.alloc _) (HZ.out.2.1.alloc _) (by omega) (by simp; omega) ?_; intro g' cap w5 hown hgrow; have HOW := hide (And.intro hown (And.intro (rd_push HZ.out.2.2.2.1 HZ.out.2.2.1 hblt _ hgrow) (grown_push HZ.out.2.2.2.2 HZ.out.2.2.1 (Nat.le_refl _) _ hgrow))); clear hown hgrow)
          refine bodyPost_ret (results_tmp rfl _ _ _) rfl ⟨l ++ [x], .slice (some ⟨g', 0, none⟩) (l.length + 1) cap, rfl, HOW.out.1, by simp; omega, fun y hy => ?_, HOW.out.2.1.mono (by omega), HOW.out.2.2⟩
          rcases List.mem_append.1 hy with h | h
          · exact HL.out y h
          · obtain rfl : y = x := by simpa using h
            exact hx5
end Go.Proofs.YtjegebnnlomcpaaDoor
