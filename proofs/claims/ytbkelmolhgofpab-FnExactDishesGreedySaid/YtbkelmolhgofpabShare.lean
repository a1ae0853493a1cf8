/- ShareOf of the program.
   Conditions: lists have at most 1048576 elements. -/
import Derived.Test.YtbkelmolhgofpabShareMath
import Derived.Test.YtbkelmolhgofpabPays2
import Derived.RegionTactic
import Derived.BigRegion
import Derived.Shelf.RegionOpenPlain
namespace Go.Proofs.Ytbkelmolhgofpab
open Go.RowKit Go.ChangeShapes Go.WideShapes Go.ChangeAt Go.Deep

theorem zeros_tab' (w : World) {lo : Nat} (n : Nat) (hlo : lo ≤ w.heap.size) (hn : n ≤ 1048576) : IntSl (w.alloc (.cells (madeCells #[.int .i64 0] n) 3)) lo (.slice (some ⟨w.heap.size, 0, none⟩) n n) (tab n (fun _ => 0)) := by
  have h : OwnInts (w.alloc (.cells (madeCells #[.int .i64 0] n) 3)) w.heap.size (tab n (fun _ => 0)) := by
    unfold OwnInts
    rw [tab_len]
    exact (World.rowIs_made _ _ _ _).congr (fun i hi => by simp [tab, hi])
  have := h.sl hlo (by rw [tab_len]; exact hn)
  rw [tab_len] at this
  exact this
theorem tab_step {f : Int → Int} {xs : List Int} {j k : Nat} {x : Int} (hx : xs.getD k 0 = x) : (if j = k then f x else if j < k then f (xs.getD j 0) else 0) = if j < k + 1 then f (xs.getD j 0) else 0 := by
  by_cases e : j = k
  · subst e
    rw [if_pos rfl, if_pos (by omega), hx]
  · rw [if_neg e]
    by_cases e2 : j < k
    · rw [if_pos e2, if_pos (by omega)]
    · rw [if_neg e2, if_neg (by omega)]
theorem map_tab (f : Int → Int) (xs : List Int) : tab xs.length (fun j => f (xs.getD j 0)) = xs.map f := by
  apply List.ext_getElem?
  intro i
  by_cases hi : i < xs.length
  · rw [tab_at hi, List.getElem?_map, List.getElem?_eq_getElem hi]
    simp [hi]
  · rw [List.getElem?_eq_none (by rw [tab_len]; omega), List.getElem?_eq_none (by rw [List.length_map]; omega)]
theorem tab_done {f : Int → Int} {xs : List Int} : tab xs.length (fun j => if j < xs.length then f (xs.getD j 0) else 0) = xs.map f := by
  rw [← map_tab]
  exact tab_congr (fun j hj => if_pos hj)
theorem tab_none {f : Int → Int} {xs : List Int} : tab xs.length (fun _ => (0 : Int)) = tab xs.length (fun j => if j < 0 then f (xs.getD j 0) else 0) := tab_congr (fun j _ => by simp)
theorem IntSl.capOk {w : World} {lo g n cap : Nat} {xs : List Int} (h : IntSl w lo (.slice (some ⟨g, 0, none⟩) n cap) xs) : n ≤ cap := by
  obtain ⟨A, c, e, _, _⟩ := h.form
  injection e with e1 e2 e3
  subst e2
  rcases h.2 with ⟨hv, _⟩ | ⟨g', cap', cur, hv, _, _, hnc, _⟩
  · cases hv
  · injection hv with _ _ hc
    omega

end Go.Proofs.Ytbkelmolhgofpab
