/- Lists of dishes that a draw or a law owns: append of one and of a whole slice, what lies behind the first.
   Conditions: the bounds in each statement. -/
import Derived.Test.YteloapholoechaaDoorDrawI
import Derived.Test.YteloapholoechaaDoorDishes
namespace Go.Proofs.YteloapholoechaaDoor
open Go.RowKit Go.ChangeShapes Go.WideShapes Go.ChangeAt Go.Deep

theorem dishes_news {W : World} {ad : Addr} {xs : List Dish} (hA : DishesAt W (some ad) xs) : ∀ j u, (dishCells xs)[j]? = some u → W.cell? (ad.add j) = some u := by
  intro j u hu
  have hj : j < xs.length * 2 := by have := (List.getElem?_eq_some_iff.1 hu).1; rwa [dishCells_len] at this
  have hx := List.getElem?_eq_getElem (show j / 2 < xs.length by omega)
  obtain ⟨b, off, e, _, h1, h2⟩ := hA _ _ hx
  injection e with e
  subst e
  have hc := dishCells_at hx
  rw [add_plain]
  rcases (by omega : j = j / 2 * 2 ∨ j = j / 2 * 2 + 1) with e | e
  · rw [e] at hu ⊢
    rw [hc.1] at hu
    rw [h1, hu]
  · rw [e] at hu ⊢
    rw [hc.2] at hu
    rw [show off + (j / 2 * 2 + 1) = off + j / 2 * 2 + 1 from by omega, h2, hu]

theorem dishCells_one {xs : List Dish} : ∀ u ∈ dishCells xs, u.oneCell' = true := by
  intro u hu
  obtain ⟨p, _, h⟩ := List.mem_flatMap.1 hu
  simp only [List.mem_cons, List.not_mem_nil, or_false] at h
  rcases h with rfl | rfl <;> rfl

theorem wp_spread_dish {W : World} {o : Oper} {a : Act} {K : Act → World → Prop} {Q : Exit → Act → World → Prop} (s x : Operand)
    (ho : o.op = .call { callee := .builtin .append, args := #[s, x], argTypes := #[23, 23] }) (lo : Nat) (v : Value) (ls : List Dish) (hs : a.eval s = v) (hown : DishSl W lo v ls) (hv : v ≠ .slice none 0 0)
    (ad : Addr) (m c : Nat) (xs : List Dish) (hm : xs.length = m) (hx : a.eval x = .slice (some ad) m c) (hA : DishesAt W (some ad) xs) (hn : ls.length + m ≤ 1048576) (hlo : lo ≤ W.heap.size)
    (h : ∀ g cap w', DishSl w' lo (.slice (some ⟨g, 0, none⟩) (ls.length + m) cap) (ls ++ xs) → W.grownBy w' v.ownBlock → K (a.put o.dst (.slice (some ⟨g, 0, none⟩) (ls.length + m) cap)) w') : o.wp Tryd.prog a W K Q := by
  obtain ⟨i0, hi, hz0, hz1, hz2⟩ := info_parts infoDish
  subst hm
  refine wp_spread s x 23 ho lo 30 i0 _ 2 16 Tryd.underlying23 hi hz0 hz1 hz2 rfl (by decide) v ls.length (dishCells ls) hs hown hv ad xs.length c (dishCells xs) hx (dishCells_len xs) (dishes_news hA) dishCells_one (by unfold maxLen; omega) (by omega) hlo ?_
  intro g cap w' h1 h2
  refine h g cap w' ?_ h2
  unfold DishSl
  rw [List.length_append]
  rw [show dishCells (ls ++ xs) = dishCells ls ++ dishCells xs from by simp [dishCells]]
  exact h1

theorem wpList_spread_dish {W : World} {ops : Array Oper} {rest : List Oper} {o : Oper} {a : Act} {Q : Exit → Act → World → Prop} (hgd : o.guard = none) (s x : Operand)
    (ho : o.op = .call { callee := .builtin .append, args := #[s, x], argTypes := #[23, 23] }) (lo : Nat) (v : Value) (ls : List Dish) (hs : a.eval s = v) (hown : DishSl W lo v ls) (hv : v ≠ .slice none 0 0)
    (ad : Addr) (m c : Nat) (xs : List Dish) (hm : xs.length = m) (hx : a.eval x = .slice (some ad) m c) (hA : DishesAt W (some ad) xs) (hn : ls.length + m ≤ 1048576) (hlo : lo ≤ W.heap.size)
    (h : ∀ g cap w', DishSl w' lo (.slice (some ⟨g, 0, none⟩) (ls.length + m) cap) (ls ++ xs) → W.grownBy w' v.ownBlock → wpList Tryd.prog ops Q rest (a.put o.dst (.slice (some ⟨g, 0, none⟩) (ls.length + m) cap)) w') : wpList Tryd.prog ops Q (o :: rest) a W :=
  wpList_plain hgd fun _ hK => wp_spread_dish s x ho lo v ls hs hown hv ad m c xs hm hx hA hn hlo fun g cap w' h2 h3 => hK _ _ (h g cap w' h2 h3)

theorem step_spread_dish {W : World} {ops : Array Oper} {o : Oper} {a : Act} {K : Act → World → Prop} {Q : Exit → Act → World → Prop} {E : Prop} (hgd : o.guard = none) (s x : Operand)
    (ho : o.op = .call { callee := .builtin .append, args := #[s, x], argTypes := #[23, 23] }) (lo : Nat) (v : Value) (ls : List Dish) (hs : a.eval s = v) (hown : DishSl W lo v ls) (hv : v ≠ .slice none 0 0)
    (ad : Addr) (m c : Nat) (xs : List Dish) (hm : xs.length = m) (hx : a.eval x = .slice (some ad) m c) (hA : DishesAt W (some ad) xs) (hn : ls.length + m ≤ 1048576) (hlo : lo ≤ W.heap.size)
    (h : ∀ g cap w', DishSl w' lo (.slice (some ⟨g, 0, none⟩) (ls.length + m) cap) (ls ++ xs) → W.grownBy w' v.ownBlock → K (a.put o.dst (.slice (some ⟨g, 0, none⟩) (ls.length + m) cap)) w') :
    if Region.wanted o (yielded ops a.tmps) = true then Oper.wp Tryd.prog o a W K Q else E := by
  have hw : Region.wanted o (yielded ops a.tmps) = true := by simp [Region.wanted, hgd]
  rw [if_pos hw]
  exact wp_spread_dish s x ho lo v ls hs hown hv ad m c xs hm hx hA hn hlo h

/-- A dish in a block of its own, as a slice that the call owns. -/
theorem dish_lit {W : World} {lo g : Nat} {a b : Int} (hg : W.heap[g]? = some (.cells #[.int .i64 a, .int .i64 b] 30 (0, 0))) (hlo : lo ≤ g) : DishSl W lo (.slice (some ⟨g, 0, none⟩) 1 1) [⟨a, b⟩] :=
  ⟨rfl, .inr ⟨g, 1, _, rfl, hlo, hg, Nat.le_refl _, by unfold maxLen; omega, rfl, rfl⟩⟩
theorem DishesAt.tail {w : World} {g off : Nat} {x : Dish} {r : List Dish} (h : DishesAt w (some ⟨g, off, none⟩) (x :: r)) : DishesAt w (some ⟨g, off + 2, none⟩) r := by
  intro i p hp
  obtain ⟨b, o, e, hlt, h1, h2⟩ := h (i + 1) p (by simpa using hp)
  injection e with e
  injection e with e1 e2
  subst e1 e2
  exact ⟨g, off + 2, rfl, hlt, by rw [show off + 2 + i * 2 = off + (i + 1) * 2 from by omega]; exact h1, by rw [show off + 2 + i * 2 + 1 = off + (i + 1) * 2 + 1 from by omega]; exact h2⟩
theorem DishesAt.nil (w : World) (A : Option Addr) : DishesAt w A [] := fun i p hp => by simp at hp
theorem wp_push_dish {W : World} {o : Oper} {a : Act} {K : Act → World → Prop} {Q : Exit → Act → World → Prop} (s x : Operand)
    (ho : o.op = .call { callee := .builtin .append, args := #[s, x], argTypes := #[23, 23] }) (lo : Nat) (v : Value) (ls : List Dish) (hs : a.eval s = v) (hown : DishSl W lo v ls) (g : Nat) (p : Dish)
    (hx : a.eval x = .slice (some ⟨g, 0, none⟩) 1 1) (hg : W.heap[g]? = some (.cells #[.int .i64 p.prep, .int .i64 p.cook] 30 (0, 0))) (hn : ls.length ≤ 1048576) (hlo : lo ≤ W.heap.size)
    (h : ∀ g' cap w', DishSl w' lo (.slice (some ⟨g', 0, none⟩) (ls.length + 1) cap) (ls ++ [p]) → W.grownBy w' v.ownBlock → K (a.put o.dst (.slice (some ⟨g', 0, none⟩) (ls.length + 1) cap)) w') : o.wp Tryd.prog a W K Q := by
  obtain ⟨i0, hi, hz0, hz1, hz2⟩ := info_parts infoDish
  refine wp_append_lies W s x 23 ho lo 30 i0 _ 2 16 Tryd.underlying23 hi hz0 hz1 hz2 rfl (by decide) v ls.length (dishCells ls) hs hown ⟨g, 0, none⟩ 1 1 [.int .i64 p.prep, .int .i64 p.cook] hx rfl
    (World.news_of_block (cs := #[.int .i64 p.prep, .int .i64 p.cook]) hg) (by simp [Value.oneCell']) (by decide) (by unfold maxLen; omega) (by omega) hlo _ rfl ?_
  intro g' cap w' h1 h2 _ _
  refine h g' cap w' ?_ h2
  unfold DishSl
  rw [List.length_append, dishCells_snoc]
  exact h1

/-- A whole slice appended to an empty one: a copy. -/
theorem wp_copy_dish {W : World} {o : Oper} {a : Act} {K : Act → World → Prop} {Q : Exit → Act → World → Prop} (s x : Operand)
    (ho : o.op = .call { callee := .builtin .append, args := #[s, x], argTypes := #[23, 23] }) (lo : Nat) (v : Value) (hs : a.eval s = v) (hown : DishSl W lo v []) (hv : v ≠ .slice none 0 0)
    (ad : Addr) (m c : Nat) (xs : List Dish) (hm : xs.length = m) (hx : a.eval x = .slice (some ad) m c) (hA : DishesAt W (some ad) xs) (hn : m ≤ 1048576) (hlo : lo ≤ W.heap.size)
    (h : ∀ g cap w', DishSl w' lo (.slice (some ⟨g, 0, none⟩) m cap) xs → W.grownBy w' v.ownBlock → K (a.put o.dst (.slice (some ⟨g, 0, none⟩) m cap)) w') : o.wp Tryd.prog a W K Q :=
  wp_spread_dish s x ho lo v [] hs hown hv ad m c xs hm hx hA (by simpa using hn) hlo (fun g cap w' h1 h2 => by
    have e : ([] : List Dish).length + m = m := by simp
    rw [e] at h1 ⊢
    exact h g cap w' h1 h2)
theorem DishSl.capD {w : World} {lo n c g : Nat} {l : List Dish} (h : DishSl w lo (.slice (some ⟨g, 0, none⟩) n c) l) : l.length = n ∧ n ≤ c ∧ c ≤ maxLen ∧ lo ≤ g ∧ g < w.heap.size := by
  have hlt := World.ownsRow.lt h g rfl
  rcases h.2 with ⟨hv, _⟩ | ⟨g', cap, cur, hv, _, _, h1, h2, _⟩
  · cases hv
  · injection hv with e1 e2 e3
    subst e2 e3
    exact ⟨rfl, h1, h2, hlt.1, hlt.2⟩
theorem tail_atD {w5 W : World} {lo g L c : Nat} {l : List Dish} (h : DishSl w5 lo (.slice (some ⟨g, 0, none⟩) L c) l) (hB : Below w5.heap.size w5 W) : DishesAt W (some ⟨g, 0, none⟩) l := (DishSl.below h hB).dishes
set_option maxRecDepth 100000 in
/-- What lies behind the first element, if there is one. -/
theorem tail_sliceD {w : World} {lo g L c : Nat} {ls : List Dish} (h : DishSl w lo (.slice (some ⟨g, 0, none⟩) L c) ls) : ∃ (M : Int) (ad : Addr) (L9 c9 : Nat), min (1 : Int) (L : Int) = M ∧
    (∀ W, (Instr.slice 23 (.slice (some ⟨g, 0, none⟩) L c) (some (.int .i64 M)) none none).run Tryd.prog W = .ok (.slice (some ad) L9 c9) W) ∧ (∀ W, (Instr.sliceAt 23 (.slice (some ⟨g, 0, none⟩) L c) (some (.int .i64 M)) none none).run Tryd.prog W = .ok (.slice (some ad) L9 c9) W) ∧
    (∀ W, DishesAt W (some ⟨g, 0, none⟩) ls → DishesAt W (some ad) (ls.drop 1)) ∧ (ls.drop 1).length = L9 := by
  have ht : Tryd.prog.underlying 23 = some (.slice (Tryd.prog.elem 23)) := rfl
  have hz : ∀ W, (sizeOf (Tryd.prog.elem 23)).run Tryd.prog W = .ok 2 W := fun W => by rfl
  have hcap := DishSl.capD h
  obtain ⟨h1, h2, -⟩ := hcap
  cases ls with
  | nil =>
    obtain rfl : L = 0 := by simpa using h1.symm
    have : ∀ W, (Instr.slice 23 (.slice (some ⟨g, 0, none⟩) 0 c) (some (.int .i64 0)) none none).run Tryd.prog W = .ok (.slice (some ⟨g, 0, none⟩) 0 c) W := fun W => by
      rw [run_slice_l W _ _ _ _ ht .i64 0 (by omega) (by simp), hz]; simp [Result.andThen, sliced, Addr.add]
    exact ⟨0, ⟨g, 0, none⟩, 0, c, rfl, this, fun W => (run_sliceAt_slice W _ _ _ _ _ ht).trans (this W), fun W _ => DishesAt.nil _ _, rfl⟩
  | cons x r =>
    obtain rfl : L = r.length + 1 := by simpa using h1.symm
    have hM : min (1 : Int) ((r.length + 1 : Nat) : Int) = 1 := by omega
    by_cases h1c : c = 1
    · subst h1c
      have hr : r = [] := List.eq_nil_of_length_eq_zero (by omega)
      subst hr
      have : ∀ W, (Instr.slice 23 (.slice (some ⟨g, 0, none⟩) ([] : List Dish).length.succ 1) (some (.int .i64 1)) none none).run Tryd.prog W = .ok (.slice (some ⟨g, 0, none⟩) 0 0) W := fun W => by
        rw [run_slice_l W _ _ _ _ ht .i64 1 (by omega) (by simp), hz]; simp [Result.andThen, sliced]
      exact ⟨1, ⟨g, 0, none⟩, 0, 0, rfl, this, fun W => (run_sliceAt_slice W _ _ _ _ _ ht).trans (this W), fun W _ => DishesAt.nil _ _, rfl⟩
    · have : ∀ W, (Instr.slice 23 (.slice (some ⟨g, 0, none⟩) (r.length + 1) c) (some (.int .i64 1)) none none).run Tryd.prog W = .ok (.slice (some ⟨g, 2, none⟩) r.length (c - 1)) W := fun W => by
        rw [run_slice_l W _ _ _ _ ht .i64 1 (by omega) (by omega), hz]; simp [Result.andThen, sliced, Addr.add, h1c]
      exact ⟨1, ⟨g, 2, none⟩, r.length, c - 1, hM, this, fun W => (run_sliceAt_slice W _ _ _ _ _ ht).trans (this W), fun W h => by have := h.tail; simpa using this, rfl⟩

theorem seven_dishes (w : World) (lo : Nat) (hlo : lo ≤ w.heap.size) : DishSl (w.alloc (.cells (madeCells #[.int .i64 0, .int .i64 0] 14) 30)) lo (.slice (some ⟨w.heap.size, 0, none⟩) 7 7) (List.replicate 7 ⟨0, 0⟩) :=
  ownsRow_of_row (size := 2) (n := 7) (f := fun _ => .int .i64 0) ⟨_, Deep.blk_alloc_new _ _, size_madeCells _ _, fun i hi => made2 7 i hi⟩ hlo (by unfold maxLen; omega) rfl (fun i hi => by
    have hi : i < 14 := hi
    rcases (by omega : i = 0 ∨ i = 1 ∨ i = 2 ∨ i = 3 ∨ i = 4 ∨ i = 5 ∨ i = 6 ∨ i = 7 ∨ i = 8 ∨ i = 9 ∨ i = 10 ∨ i = 11 ∨ i = 12 ∨ i = 13) with rfl | rfl | rfl | rfl | rfl | rfl | rfl | rfl | rfl | rfl | rfl | rfl | rfl | rfl <;> rfl)
end Go.Proofs.YteloapholoechaaDoor
