/- Contract of the draw of dishes and an order.
   Conditions: none. -/
import Derived.Test.YteloapholoechaaDoorDrawDishes
import Derived.Test.YteloapholoechaaDoorDrawShuffle
namespace Go.Proofs.YteloapholoechaaDoor
open Go.RowKit Go.ChangeShapes Go.WideShapes Go.ChangeAt Go.Deep

theorem ownsRow_monoF {w : World} {lo lo' : Nat} {e : TypeId} {size : Nat} {v : Value} {n : Nat} {xs : List Value} (h : w.ownsRow lo e size v n xs) (hl : lo' ≤ lo) : w.ownsRow lo' e size v n xs := by
  obtain ⟨h1, h2⟩ := h
  refine ⟨h1, ?_⟩
  rcases h2 with hn | ⟨g, cap, cur, rfl, hb0, r⟩
  · exact .inl hn
  · exact .inr ⟨g, cap, cur, rfl, Nat.le_trans hl hb0, r⟩

def DrewFlow (w : World) (b : Nat) (e : Ending) (w' : World) : Prop := ∃ (ls : List Dish) (os : List Int) (g c g2 c2 : Nat), e = .returned (.tuple #[.slice (some ⟨g, 0, none⟩) ls.length c, .slice (some ⟨g2, 0, none⟩) os.length c2]) ∧ DishSl w' w.heap.size (.slice (some ⟨g, 0, none⟩) ls.length c) ls ∧ IntSl w' w.heap.size (.slice (some ⟨g2, 0, none⟩) os.length c2) os ∧ ls.length ≤ 7 ∧ os.length ≤ 8 ∧ w.grownBy w' (some b)

set_option maxHeartbeats 1000000 in
theorem l20Flow_any (b n : Nat) (w : World) (hR : Rd w b n) (hn : n ≤ 70000) :
    Calls Tryd.prog 57 #[.pointer (some ⟨b, 0, none⟩)] w (DrewFlow w b) := by
  have hblt := hR.lt
  go_enter Tryd.func57, Tryd.ntmps57
  go_wp2_with fail
  refine (l20Dishes_any b n 12 _ hR (by omega) (by omega)).mono ?_
  rintro e w2 ⟨xs, g, c2, rfl, hS2, hl, hR2, hg2⟩
  have HS2 := hide hS2
  have HG2 := hide hg2
  have hz2 := hg2.size
  clear hS2 hg2 hR
  go_wp2_with fail
  refine (l20Shuffle_any b _ xs.length 12 _ hR2 (by omega) (by omega) (by omega)).mono ?_
  rintro e w3 ⟨os, g3, c3, rfl, hS3, hl3, hR3, hg3⟩
  have HX3 := hide (row_pickI HS2.out hblt hg3)
  have HO3 := hide (ownsRow_monoF hS3 hz2)
  have HG3 := hide (HG2.out.trans hg3)
  clear hS3 hg3 HG2 HS2
  go_wp2_with fail
  refine bodyPost_ret (results_tmp2 rfl _ _ _) rfl ⟨xs, os, g, c2, g3, c3, rfl, HX3.out, HO3.out, hl, by omega, HG3.out⟩

def DrawnFlow (w : World) (e : Ending) (w' : World) : Prop := ∃ (ls : List Dish) (os : List Int) (g c g2 c2 : Nat), e = .returned (.tuple #[.slice (some ⟨g, 0, none⟩) ls.length c, .slice (some ⟨g2, 0, none⟩) os.length c2]) ∧ DishesAt w' (some ⟨g, 0, none⟩) ls ∧ IntsAt w' (some ⟨g2, 0, none⟩) os ∧ ls.length ≤ 7 ∧ os.length ≤ 8 ∧ os.length ≤ c2 ∧ Below w.heap.size w w'

end Go.Proofs.YteloapholoechaaDoor
