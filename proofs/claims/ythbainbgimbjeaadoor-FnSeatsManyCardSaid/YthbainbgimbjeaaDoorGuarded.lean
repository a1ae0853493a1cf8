/- Appends behind a guard that holds: at the operation itself.
   Conditions: the bounds in each statement. -/
import Derived.Test.YthbainbgimbjeaaDoorSpread
namespace Go.Proofs.YthbainbgimbjeaaDoor
open Go.RowKit

theorem wpList_wanted {P : Program} {ops : Array Oper} {Q : Exit → Act → World → Prop} {rest : List Oper} {o : Oper} {a : Act} {w : World} (hw : Region.wanted o (yielded ops a.tmps) = true) (h : o.wp P a w (wpList P ops Q rest) Q) : wpList P ops Q (o :: rest) a w := by
  unfold wpList
  rw [if_pos hw]
  exact .inl h

theorem wp_copy_int {W : World} {o : Oper} {a : Act} {K : Act → World → Prop} {Q : Exit → Act → World → Prop} (s x : Operand)
    (ho : o.op = .call { callee := .builtin .append, args := #[s, x], argTypes := #[23, 23] }) (lo : Nat) (v : Value) (hs : a.eval s = v) (hown : IntSl W lo v []) (hv : v ≠ .slice none 0 0)
    (ad : Addr) (m c : Nat) (xs : List Int) (hm : xs.length = m) (hx : a.eval x = .slice (some ad) m c) (hA : IntsAt W (some ad) xs) (hn : m ≤ 1048576) (hlo : lo ≤ W.heap.size)
    (h : ∀ g cap w', IntSl w' lo (.slice (some ⟨g, 0, none⟩) m cap) xs → W.grownBy w' v.ownBlock → K (a.put o.dst (.slice (some ⟨g, 0, none⟩) m cap)) w') : o.wp Tryd.prog a W K Q :=
  wp_spread_int s x ho lo v [] hs hown hv ad m c xs hm hx hA (by simpa using hn) hlo (fun g cap w' h1 h2 => by
    have e : ([] : List Int).length + m = m := by simp
    rw [e] at h1 ⊢
    exact h g cap w' h1 h2)
end Go.Proofs.YthbainbgimbjeaaDoor
