/- DrawUC: the draw of items, prices and an index.
   Conditions: the bounds in each statement. -/
import Derived.Test.YtjegebnnlomcpaaDoorDrawPrices
import Derived.Test.YtjegebnnlomcpaaDoorDraw4
namespace Go.Proofs.YtjegebnnlomcpaaDoor
open Go.RowKit Go.ChangeShapes Go.WideShapes Go.ChangeAt Go.Deep

def DrawnUC (w : World) (e : Ending) (w' : World) : Prop := ∃ (l : List Item) (A : Option Addr) (c : Nat) (xs : List Int) (g c2 : Nat) (n : Int), e = .returned (.tuple #[.slice A l.length c, .slice (some ⟨g, 0, none⟩) xs.length c2, .int .i64 n]) ∧
  ItemsAt w' A l ∧ l.length ≤ 7 ∧ (∀ x ∈ l, x.parts.length ≤ 5) ∧ IntsAt w' (some ⟨g, 0, none⟩) xs ∧ xs.length ≤ 8 ∧ Below w.heap.size w w'

set_option maxRecDepth 100000 in
set_option maxHeartbeats 1000000 in
theorem drawUnitCost_any (A : Option Addr) (c m : Nat) (w : World) (hB : BytesIn w A m) (hm : m ≤ 9223372036854775807) (hc : m ≤ c) (hc2 : c ≤ 9223372036854775807) :
    Calls Tryd.prog 4 #[.slice A m c] w (DrawnUC w) := by
  go_enter Tryd.func4, Tryd.ntmps4
  go_wp2_with fail
  refine (open_any A c m w hB hm hc hc2).mono ?_
  rintro e w1 ⟨rfl, hR1, hb1⟩
  have hz1 := hb1.size
  go_wp2_with fail
  refine (l20Items_any w.heap.size 0 9 _ hR1 (by omega) (by omega)).mono ?_
  rintro e w2 ⟨l, v, rfl, hS2, hl, hp, hR2, hg2⟩
  have hb2 : Below w.heap.size w w2 := hb1.grown hg2 hz1 (fun j hj => by injection hj with hj; omega)
  have hz2 := hb2.size
  have hlt2 : w.heap.size < w2.heap.size := hR2.lt
  obtain ⟨A2, c2, hv, hI2⟩ := hS2.form
  subst hv
  have HS := hide (And.intro hS2 (And.intro hR2 (And.intro hp hR1)))
  clear hS2 hp hR1 hI2
  go_wp2_with fail
  refine (l20Prices_any w.heap.size _ l.length A2 c2 14 _ hR2 (by omega) hl (by omega)).mono ?_
  rintro e w3 ⟨xs, g, c3, rfl, hX3, hx, hR3, hg3, -⟩
  have hb3 : Below w.heap.size w w3 := hb2.grown hg3 hz2 (fun j hj => by injection hj with hj; omega)
  have hz3 := hb3.size
  have HX := hide hX3
  have hgl := (World.ownsRow.lt hX3 g rfl).1
  clear hX3
  go_wp2_with fail
  refine (l20Index_any w.heap.size _ l.length A2 c2 _ hR3 (by omega) (by omega)).mono ?_
  rintro e w4 ⟨n, rfl, hn0, hn1, hR4, hg4⟩
  have hb4 : Below w.heap.size w w4 := hb3.grown hg4 hz3 (fun j hj => by injection hj with hj; omega)
  have hS4 := HS.out.1.pick HS.out.2.1 HS.out.2.2.2.lt (hg3.trans hg4)
  obtain ⟨A3, c4, hv, hI4⟩ := hS4.form
  injection hv with hv hv2 hv3
  subst hv hv3
  have HI := hide hI4
  have hX4 : IntSl w4 w2.heap.size (.slice (some ⟨g, 0, none⟩) xs.length c3) xs := World.ownsRow.kept HX.out hg4 (.inr (fun e => by
    have e : some g = some w.heap.size := e
    injection e with e
    omega))
  have HX4 := hide hX4.ints
  clear hI4 hS4 hR3 hg3 hR2 hg2 hX4 hR4 hg4
  go_wp2_with fail
  refine bodyPost_ret (v := .tuple #[.slice A2 l.length c2, .slice (some ⟨g, 0, none⟩) xs.length c3, .int .i64 n]) (by simp [results, Tryd.results4, go_sem]) rfl ⟨l, A2, c2, xs, g, c3, n, rfl, HI.out, hl, HS.out.2.2.1, HX4.out, hx, hb4⟩
end Go.Proofs.YtjegebnnlomcpaaDoor
