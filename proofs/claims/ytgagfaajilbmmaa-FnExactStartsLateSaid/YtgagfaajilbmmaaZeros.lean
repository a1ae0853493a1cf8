/- Zeros: a row of noughts that the call has made.
   Conditions: it has at most 1048576 elements. -/
import Derived.Test.YtgagfaajilbmmaaTab
import Derived.Test.YtgagfaajilbmmaaLots
import Derived.Test.YtgagfaajilbmmaaSlKit
import Derived.RegionTactic
import Derived.BigRegion
import Derived.Shelf.RegionOpenPlain
import Derived.StillTailTactics
namespace Go.Proofs.Ytgagfaajilbmmaa
open Go.RowKit Go.ChangeShapes Go.WideShapes Go.ChangeAt Go.Deep

theorem zeros_tabG (w : World) {lo : Nat} (n : Nat) (hlo : lo ≤ w.heap.size) (hn : n ≤ 1048576) : IntSl (w.alloc (.cells (madeCells #[.int .i64 0] n) 3)) lo (.slice (some ⟨w.heap.size, 0, none⟩) n n) (tab n (fun _ => 0)) := by
  have h : OwnInts (w.alloc (.cells (madeCells #[.int .i64 0] n) 3)) w.heap.size (tab n (fun _ => 0)) := by
    unfold OwnInts
    rw [tab_len]
    exact (World.rowIs_made _ _ _ _).congr (fun i hi => by simp [tab, hi])
  have := h.sl hlo (by rw [tab_len]; exact hn)
  rw [tab_len] at this
  exact this
end Go.Proofs.Ytgagfaajilbmmaa
