/- The draws of chapter 4 that are a kitchen.
   Conditions: the bounds in each statement. -/
import Derived.Test.YthmpopdoihlfdaaDoorDrawKit
import Derived.Test.YthmpopdoihlfdaaDoorLawKit
namespace Go.Proofs.YthmpopdoihlfdaaDoor
open Go.RowKit Go.ChangeShapes Go.WideShapes Go.ChangeAt Go.Deep

/-- A kitchen, drawn from bytes. -/
def DrawnKit (w : World) (e : Ending) (w' : World) : Prop := ∃ (l : List (List Order)) (g c : Nat), e = .returned (.slice (some ⟨g, 0, none⟩) l.length c) ∧ TickSl w' w.heap.size (.slice (some ⟨g, 0, none⟩) l.length c) l ∧ l.length ≤ 5 ∧ (∀ x ∈ l, x.length ≤ 7) ∧ Below w.heap.size w w'

set_option maxHeartbeats 1000000 in
theorem drawKitchenValid_any (A : Option Addr) (c m : Nat) (w : World) (hB : BytesIn w A m) (hm : m ≤ 9223372036854775807) (hc : m ≤ c) (hc2 : c ≤ 9223372036854775807) :
    Calls Tryd.prog 37 #[.slice A m c] w (DrawnKit w) := by
  go_enter Tryd.func37, Tryd.ntmps37
  go_wp2_with fail
  refine (open_any A c m w hB hm hc hc2).mono ?_
  rintro e w1 ⟨rfl, hR1, hb1⟩
  have hz1 := hb1.size
  go_wp2_with fail
  refine (l20Kitchen_any w.heap.size 0 2 _ hR1 (by omega) (by omega)).mono ?_
  rintro e w2 ⟨l, g, c2, rfl, hS2, hl5, hx7, hR2, hg2⟩
  have hb2 : Below w.heap.size w w2 := hb1.grown hg2 hz1 (fun j hj => by injection hj with hj; omega)
  have HS2 := hide (hS2.mono hz1)
  have HX := hide hx7
  clear hg2 hS2 hx7
  go_wp2_with fail
  refine bodyPost_ret (results_tmp rfl _ _ _) rfl ⟨l, g, c2, rfl, HS2.out, hl5, HX.out, hb2⟩

set_option maxHeartbeats 1000000 in
theorem drawNextFire_any (A : Option Addr) (c m : Nat) (w : World) (hB : BytesIn w A m) (hm : m ≤ 9223372036854775807) (hc : m ≤ c) (hc2 : c ≤ 9223372036854775807) :
    Calls Tryd.prog 40 #[.slice A m c] w (DrawnKit w) := by
  go_enter Tryd.func40, Tryd.ntmps40
  go_wp2_with fail
  refine (open_any A c m w hB hm hc hc2).mono ?_
  rintro e w1 ⟨rfl, hR1, hb1⟩
  have hz1 := hb1.size
  go_wp2_with fail
  refine (l20Kitchen_any w.heap.size 0 9 _ hR1 (by omega) (by omega)).mono ?_
  rintro e w2 ⟨l, g, c2, rfl, hS2, hl5, hx7, hR2, hg2⟩
  have hb2 : Below w.heap.size w w2 := hb1.grown hg2 hz1 (fun j hj => by injection hj with hj; omega)
  have HS2 := hide (hS2.mono hz1)
  have HX := hide hx7
  clear hg2 hS2 hx7
  go_wp2_with fail
  refine bodyPost_ret (results_tmp rfl _ _ _) rfl ⟨l, g, c2, rfl, HS2.out, hl5, HX.out, hb2⟩

set_option maxHeartbeats 1000000 in
theorem drawWorkStep_any (A : Option Addr) (c m : Nat) (w : World) (hB : BytesIn w A m) (hm : m ≤ 9223372036854775807) (hc : m ≤ c) (hc2 : c ≤ 9223372036854775807) :
    Calls Tryd.prog 43 #[.slice A m c] w (DrawnKit w) := by
  go_enter Tryd.func43, Tryd.ntmps43
  go_wp2_with fail
  refine (open_any A c m w hB hm hc hc2).mono ?_
  rintro e w1 ⟨rfl, hR1, hb1⟩
  have hz1 := hb1.size
  go_wp2_with fail
  refine (l20Kitchen_any w.heap.size 0 9 _ hR1 (by omega) (by omega)).mono ?_
  rintro e w2 ⟨l, g, c2, rfl, hS2, hl5, hx7, hR2, hg2⟩
  have hb2 : Below w.heap.size w w2 := hb1.grown hg2 hz1 (fun j hj => by injection hj with hj; omega)
  have HS2 := hide (hS2.mono hz1)
  have HX := hide hx7
  clear hg2 hS2 hx7
  go_wp2_with fail
  refine bodyPost_ret (results_tmp rfl _ _ _) rfl ⟨l, g, c2, rfl, HS2.out, hl5, HX.out, hb2⟩

set_option maxHeartbeats 1000000 in
theorem drawWorkLeft_any (A : Option Addr) (c m : Nat) (w : World) (hB : BytesIn w A m) (hm : m ≤ 9223372036854775807) (hc : m ≤ c) (hc2 : c ≤ 9223372036854775807) :
    Calls Tryd.prog 48 #[.slice A m c] w (DrawnKit w) := by
  go_enter Tryd.func48, Tryd.ntmps48
  go_wp2_with fail
  refine (open_any A c m w hB hm hc hc2).mono ?_
  rintro e w1 ⟨rfl, hR1, hb1⟩
  have hz1 := hb1.size
  go_wp2_with fail
  refine (l20Kitchen_any w.heap.size 0 9 _ hR1 (by omega) (by omega)).mono ?_
  rintro e w2 ⟨l, g, c2, rfl, hS2, hl5, hx7, hR2, hg2⟩
  have hb2 : Below w.heap.size w w2 := hb1.grown hg2 hz1 (fun j hj => by injection hj with hj; omega)
  have HS2 := hide (hS2.mono hz1)
  have HX := hide hx7
  clear hg2 hS2 hx7
  go_wp2_with fail
  refine bodyPost_ret (results_tmp rfl _ _ _) rfl ⟨l, g, c2, rfl, HS2.out, hl5, HX.out, hb2⟩

end Go.Proofs.YthmpopdoihlfdaaDoor
