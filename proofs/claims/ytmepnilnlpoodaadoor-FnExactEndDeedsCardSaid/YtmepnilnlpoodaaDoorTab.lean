/- Lists given by a function of the index; the call's own rows of numbers: append, store. And the contract of l1Left of the reference model.
   Conditions: the bounds in each statement. -/
import Derived.Test.YtmepnilnlpoodaaDoorOk
import Derived.StillTailTactics
import Derived.Deep.AppendLies
namespace Go.Proofs.YtmepnilnlpoodaaDoor
open Go.RowKit

def tab (n : Nat) (f : Nat → Int) : List Int := (List.range n).map f
theorem tab_len (n : Nat) (f : Nat → Int) : (tab n f).length = n := by simp [tab]
theorem tab_at {n : Nat} {f : Nat → Int} {i : Nat} (h : i < n) : (tab n f)[i]? = some (f i) := by simp [tab, h]
theorem tab_snoc (n : Nat) (f : Nat → Int) : tab n f ++ [f n] = tab (n + 1) f := by simp [tab, List.range_succ]
theorem tab_congr {n : Nat} {f g : Nat → Int} (h : ∀ i, i < n → f i = g i) : tab n f = tab n g :=
  List.map_congr_left (fun i hi => h i (List.mem_range.1 hi))
theorem tab_set (n : Nat) (f : Nat → Int) (o : Nat) (v : Int) : (tab n f).set o v = tab n (fun j => if j = o then v else f j) := by
  apply List.ext_getElem?
  intro i
  by_cases hi : i < n
  · rw [tab_at hi, List.getElem?_set]
    by_cases e : o = i
    · subst e; rw [if_pos rfl, if_pos (by rw [tab_len]; exact hi), if_pos rfl]
    · rw [if_neg e, tab_at hi, if_neg (Ne.symm e)]
  · rw [List.getElem?_eq_none (by rw [List.length_set, tab_len]; omega), List.getElem?_eq_none (by rw [tab_len]; omega)]

theorem IntSl.own {w : World} {lo : Nat} {v : Value} {xs : List Int} (h : IntSl w lo v xs) (hn : 0 < xs.length) : ∃ g cap, v = .slice (some ⟨g, 0, none⟩) xs.length cap ∧ lo ≤ g ∧ g < w.heap.size := World.ownsRow.form h hn

theorem IntSl.cellAt {w : World} {lo g n cap : Nat} {xs : List Int} (h : IntSl w lo (.slice (some ⟨g, 0, none⟩) n cap) xs) {j : Nat} {x : Int} (hx : xs[j]? = some x) : w.cell? ⟨g, j, none⟩ = some (.int .i64 x) := by
  obtain ⟨A, c, e, hI, _⟩ := h.form
  injection e with e1 e2 e3
  subst e1
  obtain ⟨b, off, e, _, hc⟩ := hI j x hx
  injection e with e
  injection e with e1 e2
  subst e1 e2
  rw [Nat.zero_add] at hc
  exact hc

theorem IntSl.frozenAt {w : World} {lo g n cap : Nat} {xs : List Int} (h : IntSl w lo (.slice (some ⟨g, 0, none⟩) n cap) xs) (j : Nat) : w.frozen? ⟨g, j, none⟩ = false := by
  obtain ⟨A, c, e, _, _⟩ := h.form
  injection e with e1 e2 e3
  subst e2
  exact World.ownsRow.frozenAt h j

theorem IntSl.store {w : World} {lo g n cap : Nat} {xs : List Int} (h : IntSl w lo (.slice (some ⟨g, 0, none⟩) n cap) xs) (j : Nat) (x : Int) : IntSl (w.setCell ⟨g, j, none⟩ (.int .i64 x)) lo (.slice (some ⟨g, 0, none⟩) n cap) (xs.set j x) := by
  obtain ⟨A, c, e, _, _⟩ := h.form
  injection e with e1 e2 e3
  subst e2
  have := (World.ownsRow.stored h j (.int .i64 x)).1
  unfold IntSl
  rw [List.map_set, List.length_set]
  exact this

theorem IntSl.grownSet {w : World} {lo g n cap : Nat} {xs : List Int} (h : IntSl w lo (.slice (some ⟨g, 0, none⟩) n cap) xs) (j : Nat) (x : Int) : w.grownBy (w.setCell ⟨g, j, none⟩ (.int .i64 x)) (some g) := by
  obtain ⟨A, c, e, _, _⟩ := h.form
  injection e with e1 e2 e3
  subst e2
  exact (World.ownsRow.stored h j (.int .i64 x)).2

theorem IntSl.drew {w : World} {lo : Nat} {v : Value} {xs : List Int} (h : IntSl w lo v xs) : IntSl w.drew lo v xs := h

/-- Append of one number, at a step of a region that draws its order. -/
theorem step_push_int {W : World} {ops : Array Oper} {o : Oper} {a : Act} {K : Act → World → Prop} {Q : Exit → Act → World → Prop} {E : Prop} (hgd : o.guard = none) (s x : Operand)
    (ho : o.op = .call { callee := .builtin .append, args := #[s, x], argTypes := #[23, 23] }) (lo : Nat) (v : Value) (xs : List Int) (hs : a.eval s = v) (hown : IntSl W lo v xs) (g : Nat) (y : Int)
    (hx : a.eval x = .slice (some ⟨g, 0, none⟩) 1 1) (hg : W.heap[g]? = some (.cells #[.int .i64 y] 3 (0, 0))) (hn : xs.length ≤ 1048576) (hlo : lo ≤ W.heap.size)
    (h : ∀ g' cap w', IntSl w' lo (.slice (some ⟨g', 0, none⟩) (xs.length + 1) cap) (xs ++ [y]) → W.grownBy w' v.ownBlock → K (a.put o.dst (.slice (some ⟨g', 0, none⟩) (xs.length + 1) cap)) w') :
    if Region.wanted o (yielded ops a.tmps) = true then Oper.wp Tryd.prog o a W K Q else E := by
  obtain ⟨i0, hi, hz0, hz1, hz2⟩ := info_parts info3
  refine step_append_lies W hgd s x 23 ho lo 3 i0 (.int .i64 0) 1 8 Tryd.underlying23 hi hz0 hz1 hz2 rfl (by decide) v xs.length (xs.map (.int .i64)) hs hown ⟨g, 0, none⟩ 1 1 [.int .i64 y] hx rfl
    (World.news_of_block (cs := #[.int .i64 y]) hg) (ints_oneCell .i64 [y]) (by decide) (by unfold maxLen; omega) (by omega) hlo _ rfl ?_
  intro g' cap w' h1 h2 _ _
  refine h g' cap w' ?_ h2
  unfold IntSl
  rw [List.length_append, List.map_append]
  exact h1

theorem still_tail_drew {P : Program} {id : Nat} {Q : Exit → Act → World → Prop} {a : Act} {w : World} {l : List Oper} (n : Nat) (hm : P.follows .mixedOrders = true) (hB : Region.lexTailB .any l.toArray n = true)
    (h : wpStill P l.toArray w.drew (fun a' => wpList P l.toArray Q (l.drop n) a' w.drew) (l.take n) a) : (Code.region id l.toArray true).wp P Q a w := wp_region_still_tail n hm hB h

def baseAt (l : List Item) (want stock rs : List Int) (j : Nat) : Int := stock.getD j 0 - want.getD j 0 + rs.getD j 0 * max (l.getD j nil0).yield 1

theorem baseAt_eq {l : List Item} {want stock rs : List Int} {j : Nat} (h : 0 ≤ (l.getD j nil0).yield) : baseAt l want stock rs j = stock.getD j 0 + madeI (l.getD j nil0).yield (rs.getD j 0) - want.getD j 0 := by
  unfold baseAt
  rw [madeI_max h]
  omega

end Go.Proofs.YtmepnilnlpoodaaDoor
