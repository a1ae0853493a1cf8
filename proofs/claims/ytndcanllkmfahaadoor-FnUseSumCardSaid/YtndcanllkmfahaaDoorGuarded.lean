/- Appends behind a guard that holds: at the operation itself.
   Conditions: the bounds in each statement. -/
import Derived.Test.YtndcanllkmfahaaDoorSpread
namespace Go.Proofs.YtndcanllkmfahaaDoor
open Go.RowKit

theorem wpList_wanted {P : Program} {ops : Array Oper} {Q : Exit → Act → World → Prop} {rest : List Oper} {o : Oper} {a : Act} {w : World} (hw : Region.wanted o (yielded ops a.tmps) = true) (h : o.wp P a w (wpList P ops Q rest) Q) : wpList P ops Q (o :: rest) a w := by
  unfold wpList
  rw [if_pos hw]
  exact .inl h

theorem wp_push_lot {W : World} {o : Oper} {a : Act} {K : Act → World → Prop} {Q : Exit → Act → World → Prop} (s x : Operand)
    (ho : o.op = .call { callee := .builtin .append, args := #[s, x], argTypes := #[23, 23] }) (lo : Nat) (v : Value) (ls : List Lot) (hs : a.eval s = v) (hown : LotSl W lo v ls) (g : Nat) (p : Lot)
    (hx : a.eval x = .slice (some ⟨g, 0, none⟩) 1 1) (hg : W.heap[g]? = some (.cells #[.int .i64 p.many, .int .i64 p.last] 36 (0, 0))) (hn : ls.length ≤ 1048576) (hlo : lo ≤ W.heap.size)
    (h : ∀ g' cap w', LotSl w' lo (.slice (some ⟨g', 0, none⟩) (ls.length + 1) cap) (ls ++ [p]) → W.grownBy w' v.ownBlock → K (a.put o.dst (.slice (some ⟨g', 0, none⟩) (ls.length + 1) cap)) w') : o.wp Tryd.prog a W K Q := by
  obtain ⟨i0, hi, hz0, hz1, hz2⟩ := info_parts infoLot
  refine wp_append_lies W s x 23 ho lo 36 i0 _ 2 16 Tryd.underlying23 hi hz0 hz1 hz2 rfl (by decide) v ls.length (lotCells ls) hs hown ⟨g, 0, none⟩ 1 1 [.int .i64 p.many, .int .i64 p.last] hx rfl
    (World.news_of_block (cs := #[.int .i64 p.many, .int .i64 p.last]) hg) (by simp [Value.oneCell']) (by decide) (by unfold maxLen; omega) (by omega) hlo _ rfl ?_
  intro g' cap w' h1 h2 _ _
  refine h g' cap w' ?_ h2
  unfold LotSl
  rw [List.length_append, lotCells_snoc]
  exact h1

/-- A whole slice appended to an empty one: a copy. -/
theorem wp_copy_lot {W : World} {o : Oper} {a : Act} {K : Act → World → Prop} {Q : Exit → Act → World → Prop} (s x : Operand)
    (ho : o.op = .call { callee := .builtin .append, args := #[s, x], argTypes := #[23, 23] }) (lo : Nat) (v : Value) (hs : a.eval s = v) (hown : LotSl W lo v []) (hv : v ≠ .slice none 0 0)
    (ad : Addr) (m c : Nat) (xs : List Lot) (hm : xs.length = m) (hx : a.eval x = .slice (some ad) m c) (hA : LotsAt W (some ad) xs) (hn : m ≤ 1048576) (hlo : lo ≤ W.heap.size)
    (h : ∀ g cap w', LotSl w' lo (.slice (some ⟨g, 0, none⟩) m cap) xs → W.grownBy w' v.ownBlock → K (a.put o.dst (.slice (some ⟨g, 0, none⟩) m cap)) w') : o.wp Tryd.prog a W K Q :=
  wp_spread_lot s x ho lo v [] hs hown hv ad m c xs hm hx hA (by simpa using hn) hlo (fun g cap w' h1 h2 => by
    have e : ([] : List Lot).length + m = m := by simp
    rw [e] at h1 ⊢
    exact h g cap w' h1 h2)
theorem wp_copy_int {W : World} {o : Oper} {a : Act} {K : Act → World → Prop} {Q : Exit → Act → World → Prop} (s x : Operand)
    (ho : o.op = .call { callee := .builtin .append, args := #[s, x], argTypes := #[24, 24] }) (lo : Nat) (v : Value) (hs : a.eval s = v) (hown : IntSl W lo v []) (hv : v ≠ .slice none 0 0)
    (ad : Addr) (m c : Nat) (xs : List Int) (hm : xs.length = m) (hx : a.eval x = .slice (some ad) m c) (hA : IntsAt W (some ad) xs) (hn : m ≤ 1048576) (hlo : lo ≤ W.heap.size)
    (h : ∀ g cap w', IntSl w' lo (.slice (some ⟨g, 0, none⟩) m cap) xs → W.grownBy w' v.ownBlock → K (a.put o.dst (.slice (some ⟨g, 0, none⟩) m cap)) w') : o.wp Tryd.prog a W K Q :=
  wp_spread_int s x ho lo v [] hs hown hv ad m c xs hm hx hA (by simpa using hn) hlo (fun g cap w' h1 h2 => by
    have e : ([] : List Int).length + m = m := by simp
    rw [e] at h1 ⊢
    exact h g cap w' h1 h2)
end Go.Proofs.YtndcanllkmfahaaDoor
