/- Contracts of the draws of lots, and of lots and a day.
   Conditions: the bounds in each statement. -/
import Derived.Test.YtecmghoklleheaaDoorDrawLots
namespace Go.Proofs.YtecmghoklleheaaDoor
open Go.RowKit

def DrewL (w : World) (e : Ending) (w' : World) : Prop := ∃ (ls : List Lot) (g c : Nat), e = .returned (.slice (some ⟨g, 0, none⟩) ls.length c) ∧ LotSl w' w.heap.size (.slice (some ⟨g, 0, none⟩) ls.length c) ls ∧ ls.length ≤ 6 ∧ Below w.heap.size w w'
def DrewLD (w : World) (e : Ending) (w' : World) : Prop := ∃ (ls : List Lot) (g c : Nat) (d : Int), e = .returned (.tuple #[.slice (some ⟨g, 0, none⟩) ls.length c, .int .i64 d]) ∧ LotSl w' w.heap.size (.slice (some ⟨g, 0, none⟩) ls.length c) ls ∧ ls.length ≤ 6 ∧ -1 ≤ d ∧ d ≤ 6 ∧ Below w.heap.size w w'

set_option maxRecDepth 100000 in
set_option maxHeartbeats 1000000 in
theorem drawLotsValid_any (A : Option Addr) (c m : Nat) (w : World) (hB : BytesIn w A m) (hm : m ≤ 9223372036854775807) (hc : m ≤ c) (hc2 : c ≤ 9223372036854775807) :
    Calls Tryd.prog 16 #[.slice A m c] w (DrewL w) := by
  go_enter Tryd.func16, Tryd.ntmps16
  go_wp2_with fail
  refine (open_any A c m w hB hm hc hc2).mono ?_
  rintro e w1 ⟨rfl, hR1, hb1⟩
  have hz1 := hb1.size
  go_wp2_with fail
  refine (l20Lots_any w.heap.size 0 2 _ hR1 (by omega) (by omega)).mono ?_
  rintro e w2 ⟨ls, g, c2, rfl, hS2, hl, hR2, hg2⟩
  have hb2 : Below w.heap.size w w2 := hb1.grown hg2 hz1 (fun j hj => by injection hj with hj; omega)
  have HS2 := hide (ownsRow_mono hS2 hz1)
  clear hS2 hR2 hg2
  go_wp2_with fail
  refine bodyPost_ret (results_tmp rfl _ _ _) rfl ⟨ls, g, c2, rfl, HS2.out, hl, hb2⟩

set_option maxRecDepth 100000 in
set_option maxHeartbeats 1000000 in
theorem drawLotsAt_any (A : Option Addr) (c m : Nat) (w : World) (hB : BytesIn w A m) (hm : m ≤ 9223372036854775807) (hc : m ≤ c) (hc2 : c ≤ 9223372036854775807) :
    Calls Tryd.prog 23 #[.slice A m c] w (DrewLD w) := by
  go_enter Tryd.func23, Tryd.ntmps23
  go_wp2_with fail
  refine (open_any A c m w hB hm hc hc2).mono ?_
  rintro e w1 ⟨rfl, hR1, hb1⟩
  have hz1 := hb1.size
  have hlt1 := hR1.lt
  go_wp2_with fail
  refine (l20Lots_any w.heap.size 0 9 _ hR1 (by omega) (by omega)).mono ?_
  rintro e w2 ⟨ls, g, c2, rfl, hS2, hl, hR2, hg2⟩
  have hb2 : Below w.heap.size w w2 := hb1.grown hg2 hz1 (fun j hj => by injection hj with hj; omega)
  have HS2 := hide hS2
  have hz2 := hb2.size
  clear hS2 hg2
  go_wp2_with fail
  refine (pick_any w.heap.size _ 8 _ hR2 (by omega) (by omega)).mono ?_
  rintro e w3 ⟨d, rfl, hd0, hd1, hR3, hg3⟩
  have hb3 : Below w.heap.size w w3 := hb2.grown hg3 hz2 (fun j hj => by injection hj with hj; omega)
  have HS3 := hide (ownsRow_mono (LotSl.pick HS2.out hlt1 hg3) hz1)
  have hd7 : d ≤ 7 := by omega
  clear hg3 hR3 hR2 HS2
  go_wp2_with fail
  refine bodyPost_ret (results_tmp2 rfl _ _ _) rfl ⟨ls, g, c2, d - 1, rfl, HS3.out, hl, by omega, by omega, hb3⟩
end Go.Proofs.YtecmghoklleheaaDoor
