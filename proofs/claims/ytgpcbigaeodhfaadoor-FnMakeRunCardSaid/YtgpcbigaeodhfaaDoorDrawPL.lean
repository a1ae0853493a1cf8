/- The draw of items, amounts wanted and amounts in stock.
   Conditions: the bounds in each statement. -/
import Derived.Test.YtgpcbigaeodhfaaDoorLawKit
import Derived.Test.YtgpcbigaeodhfaaDoorDraw4
import Derived.Test.YtgpcbigaeodhfaaDoorDrawAmounts
namespace Go.Proofs.YtgpcbigaeodhfaaDoor
open Go.RowKit Go.ChangeShapes Go.WideShapes Go.ChangeAt Go.Deep

def DrawnPL (w : World) (e : Ending) (w' : World) : Prop := ∃ (l : List Item) (A : Option Addr) (c : Nat) (xs ys : List Int) (g c2 g3 c3 : Nat), e = .returned (.tuple #[.slice A l.length c, .slice (some ⟨g, 0, none⟩) xs.length c2, .slice (some ⟨g3, 0, none⟩) ys.length c3]) ∧ ItemsAt w' A l ∧ l.length ≤ 7 ∧ (∀ x ∈ l, x.parts.length ≤ 5) ∧ IntsAt w' (some ⟨g, 0, none⟩) xs ∧ xs.length ≤ 8 ∧ IntsAt w' (some ⟨g3, 0, none⟩) ys ∧ ys.length ≤ 8 ∧ Below w.heap.size w w'

set_option maxRecDepth 100000 in
set_option maxHeartbeats 1000000 in
theorem drawPlanLeast_any (A : Option Addr) (c m : Nat) (w : World) (hB : BytesIn w A m) (hm : m ≤ 9223372036854775807) (hc : m ≤ c) (hc2 : c ≤ 9223372036854775807) :
    Calls Tryd.prog 21 #[.slice A m c] w (DrawnPL w) := by
  go_enter Tryd.func21, Tryd.ntmps21
  go_wp2_with fail
  refine (open_any A c m w hB hm hc hc2).mono ?_
  rintro e w1 ⟨rfl, hR1, hb1⟩
  have hz1 := hb1.size
  go_wp2_with fail
  refine (l20Items_any w.heap.size 0 9 _ hR1 (by omega) (by omega)).mono ?_
  rintro e w2 ⟨l, v, rfl, hS2, hl, hp, hR2, hg2⟩
  have hb2 : Below w.heap.size w w2 := hb1.grown hg2 hz1 (fun j hj => by injection hj with hj; omega)
  have hz2 := hb2.size
  obtain ⟨A2, c2, hv, hI2⟩ := hS2.form
  subst hv
  have HS := hide (And.intro hS2 (And.intro hR2 (And.intro hp hR1)))
  have hb0 := hR1.lt
  clear hS2 hp hR1 hI2
  go_wp2_with fail
  refine (l20Amounts_any w.heap.size _ l.length A2 c2 12 _ hR2 (by omega) hl (by omega)).mono ?_
  rintro e w3 ⟨xs, g, c3, rfl, hX3, hx, hR3, hg3, -⟩
  have hb3 : Below w.heap.size w w3 := hb2.grown hg3 hz2 (fun j hj => by injection hj with hj; omega)
  have HS3 := hide (HS.out.1.pick HS.out.2.1 HS.out.2.2.2.lt hg3)
  have HX3 := hide hX3
  have HR3 := hide hR3
  have hz3 := hb3.size
  have hb20 := HS.out.2.1.lt
  clear hX3 hR2 hg2 hg3
  go_wp2_with fail
  refine (l20Amounts_any w.heap.size _ l.length A2 c2 12 _ hR3 (by omega) hl (by omega)).mono ?_
  rintro e w4 ⟨ys, g4, c4, rfl, hY4, hy, hR4, hg4, -⟩
  have hb4 : Below w.heap.size w w4 := hb3.grown hg4 hz3 (fun j hj => by injection hj with hj; omega)
  have hS4 := HS3.out.pick HR3.out HS.out.2.2.2.lt hg4
  obtain ⟨A3, c5, hv, hI4⟩ := hS4.form
  injection hv with hv hv2 hv3
  subst hv hv3
  have HI := hide hI4
  have HX4 := hide (IntSl.ints (row_pickI HX3.out hb20 hg4))
  have HY := hide hY4.ints
  clear hI4 hS4 hR4 hg4 hR3 hY4
  go_wp2_with fail
  refine bodyPost_ret (v := .tuple #[.slice A2 l.length c2, .slice (some ⟨g, 0, none⟩) xs.length c3, .slice (some ⟨g4, 0, none⟩) ys.length c4]) (by simp [results, Tryd.results21, go_sem]) rfl ⟨l, A2, c2, xs, ys, g, c3, g4, c4, rfl, HI.out, hl, HS.out.2.2.1, HX4.out, hx, HY.out, hy, hb4⟩

end Go.Proofs.YtgpcbigaeodhfaaDoor
