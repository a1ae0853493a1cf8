/- Append of one number to a slice that the call owns, in a plain region.
   Conditions: lists have at most 1048576 elements.
   Zeros: a row of noughts that the call has made.
   Conditions: it has at most 1048576 elements. -/
import Derived.Test.YtmepnilnlpoodaaDoorTab
import Derived.OwnWalk
import Derived.Test.YtmepnilnlpoodaaDoorLots
import Derived.Test.YtmepnilnlpoodaaDoorSlKit
import Derived.RegionTactic
import Derived.BigRegion
import Derived.Shelf.RegionOpenPlain
import Derived.StillTailTactics
namespace Go.Proofs.YtmepnilnlpoodaaDoor
open Go.RowKit

/-- Append of one number, in a plain region; the new place is the old one or a new block. -/
theorem wpList_push_int {W : World} {ops : Array Oper} {rest : List Oper} {o : Oper} {a : Act} {Q : Exit → Act → World → Prop} (hgd : o.guard = none) (s x : Operand)
    (ho : o.op = .call { callee := .builtin .append, args := #[s, x], argTypes := #[23, 23] }) (lo : Nat) (v : Value) (xs : List Int) (hs : a.eval s = v) (hown : IntSl W lo v xs) (g : Nat) (y : Int)
    (hx : a.eval x = .slice (some ⟨g, 0, none⟩) 1 1) (hg : W.heap[g]? = some (.cells #[.int .i64 y] 3 (0, 0))) (hn : xs.length ≤ 1048576) (hlo : lo ≤ W.heap.size)
    (h : ∀ g' cap w', IntSl w' lo (.slice (some ⟨g', 0, none⟩) (xs.length + 1) cap) (xs ++ [y]) → W.grownBy w' v.ownBlock → (v.ownBlock = some g' ∨ g' = W.heap.size) → wpList Tryd.prog ops Q rest (a.put o.dst (.slice (some ⟨g', 0, none⟩) (xs.length + 1) cap)) w') :
    wpList Tryd.prog ops Q (o :: rest) a W := by
  obtain ⟨i0, hi, hz0, hz1, hz2⟩ := info_parts info3
  refine wpList_append_lies W hgd s x 23 ho lo 3 i0 (.int .i64 0) 1 8 Tryd.underlying23 hi hz0 hz1 hz2 rfl (by decide) v xs.length (xs.map (.int .i64)) hs hown ⟨g, 0, none⟩ 1 1 [.int .i64 y] hx rfl
    (World.news_of_block (cs := #[.int .i64 y]) hg) (ints_oneCell .i64 [y]) (by decide) (by unfold maxLen; omega) (by omega) hlo _ rfl ?_
  intro g' cap w' h1 h2 h3 _
  refine h g' cap w' ?_ h2 h3
  unfold IntSl
  rw [List.length_append, List.map_append]
  exact h1

end Go.Proofs.YtmepnilnlpoodaaDoor

namespace Go.Proofs.YtmepnilnlpoodaaDoor
open Go.RowKit Go.ChangeShapes Go.WideShapes Go.ChangeAt Go.Deep

theorem zeros_tabG (w : World) {lo : Nat} (n : Nat) (hlo : lo ≤ w.heap.size) (hn : n ≤ 1048576) : IntSl (w.alloc (.cells (madeCells #[.int .i64 0] n) 3)) lo (.slice (some ⟨w.heap.size, 0, none⟩) n n) (tab n (fun _ => 0)) := by
  have h : OwnInts (w.alloc (.cells (madeCells #[.int .i64 0] n) 3)) w.heap.size (tab n (fun _ => 0)) := by
    unfold OwnInts
    rw [tab_len]
    exact (World.rowIs_made _ _ _ _).congr (fun i hi => by simp [tab, hi])
  have := h.sl hlo (by rw [tab_len]; exact hn)
  rw [tab_len] at this
  exact this
end Go.Proofs.YtmepnilnlpoodaaDoor
