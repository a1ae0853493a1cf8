/- Contract of the draw of spans and an order.
   Conditions: none. -/
import Derived.Test.YteocmjffjinphaaDoorDrawSpans
import Derived.Test.YteocmjffjinphaaDoorDrawShuffle
namespace Go.Proofs.YteocmjffjinphaaDoor
open Go.RowKit Go.ChangeShapes Go.WideShapes Go.ChangeAt Go.Deep

def DrawnTog (w : World) (e : Ending) (w' : World) : Prop := ∃ (xs os : List Int) (g c g2 c2 : Nat), e = .returned (.tuple #[.slice (some ⟨g, 0, none⟩) xs.length c, .slice (some ⟨g2, 0, none⟩) os.length c2]) ∧ IntsAt w' (some ⟨g, 0, none⟩) xs ∧ IntsAt w' (some ⟨g2, 0, none⟩) os ∧ xs.length ≤ 7 ∧ os.length ≤ 8 ∧ os.length ≤ c2 ∧ g < w'.heap.size ∧ Below w.heap.size w w'

set_option maxHeartbeats 1000000 in
theorem drawTogetherWaits_any (A : Option Addr) (c m : Nat) (w : World) (hB : BytesIn w A m) (hm : m ≤ 9223372036854775807) (hc : m ≤ c) (hc2 : c ≤ 9223372036854775807) :
    Calls Tryd.prog 29 #[.slice A m c] w (DrawnTog w) := by
  go_enter Tryd.func29, Tryd.ntmps29
  go_wp2_with fail
  refine (open_any A c m w hB hm hc hc2).mono ?_
  rintro e w1 ⟨rfl, hR1, hb1⟩
  have hz1 := hb1.size
  have hlt1 := hR1.lt
  go_wp2_with fail
  refine (l20Spans_any w.heap.size 0 12 _ hR1 (by omega) (by omega)).mono ?_
  rintro e w2 ⟨xs, g, c2, rfl, hS2, hl, hR2, hg2, -⟩
  have hb2 : Below w.heap.size w w2 := hb1.grown hg2 hz1 (fun j hj => by injection hj with hj; omega)
  have HS2 := hide hS2
  have hz2 := hb2.size
  have hgl2 := (IntSl.capI hS2).2.2.2
  clear hS2 hg2
  go_wp2_with fail
  refine (l20Shuffle_any w.heap.size _ xs.length 12 _ hR2 (by omega) (by omega) (by omega)).mono ?_
  rintro e w3 ⟨os, g3, c3, rfl, hS3, hl3, hR3, hg3⟩
  have hb3 : Below w.heap.size w w3 := hb2.grown hg3 hz2 (fun j hj => by injection hj with hj; omega)
  have HI3 := hide (IntSl.ints (row_pickI HS2.out hlt1 hg3))
  have HO3 := hide hS3.ints
  have hcap3 := (IntSl.capI hS3).2.1
  have hz3 := hg3.size
  clear hS3 hg3
  go_wp2_with fail
  refine bodyPost_ret (results_tmp2 rfl _ _ _) rfl ⟨xs, os, g, c2, g3, c3, rfl, HI3.out, HO3.out, hl, by omega, hcap3, by omega, hb3⟩
end Go.Proofs.YteocmjffjinphaaDoor
