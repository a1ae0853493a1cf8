/- Contract of the draw of lots, a day and a want.
   Conditions: the bounds in each statement. -/
import Derived.Test.YtecmghoklleheaaDoorDrawUB
namespace Go.Proofs.YtecmghoklleheaaDoor
open Go.RowKit

def DrewLDW (w : World) (e : Ending) (w' : World) : Prop := ∃ (ls : List Lot) (g c : Nat) (d q : Int), e = .returned (.tuple #[.slice (some ⟨g, 0, none⟩) ls.length c, .int .i64 d, .int .i64 q]) ∧
  LotSl w' w.heap.size (.slice (some ⟨g, 0, none⟩) ls.length c) ls ∧ ls.length ≤ 6 ∧ -1 ≤ d ∧ d ≤ 6 ∧ -1000 ≤ q ∧ q ≤ 1000 ∧ Below w.heap.size w w'

theorem tdiv19 {p : Int} (h0 : 0 ≤ p) (h1 : p < 20) : ∃ t : Int, p.tdiv 19 = t ∧ 0 ≤ t ∧ t ≤ 1 := by
  refine ⟨_, rfl, ?_⟩
  rw [Int.tdiv_eq_ediv_of_nonneg h0]
  omega

set_option maxRecDepth 100000 in
set_option maxHeartbeats 1000000 in
theorem drawTakeFirst_any (A : Option Addr) (c m : Nat) (w : World) (hB : BytesIn w A m) (hm : m ≤ 9223372036854775807) (hc : m ≤ c) (hc2 : c ≤ 9223372036854775807) :
    Calls Tryd.prog 34 #[.slice A m c] w (DrewLDW w) := by
  go_enter Tryd.func34, Tryd.ntmps34
  go_wp2_with fail
  refine (open_any A c m w hB hm hc hc2).mono ?_
  rintro e w1 ⟨rfl, hR1, hb1⟩
  have hz1 := hb1.size
  have hlt1 := hR1.lt
  go_wp2_with fail
  refine (l20Lots_any w.heap.size 0 9 _ hR1 (by omega) (by omega)).mono ?_
  rintro e w2 ⟨ls, g, c2, rfl, hS2, hl, hR2, hg2⟩
  have hb2 : Below w.heap.size w w2 := hb1.grown hg2 hz1 (fun j hj => by injection hj with hj; omega)
  have HS2 := hide hS2
  have hz2 := hb2.size
  clear hS2 hg2
  go_wp2_with fail
  refine (pick_any w.heap.size _ 8 _ hR2 (by omega) (by omega)).mono ?_
  rintro e w3 ⟨d, rfl, hd0, hd1, hR3, hg3⟩
  have hb3 : Below w.heap.size w w3 := hb2.grown hg3 hz2 (fun j hj => by injection hj with hj; omega)
  have HS3 := hide (LotSl.pick HS2.out hlt1 hg3)
  have hd7 : d ≤ 7 := by omega
  have hz3 := hb3.size
  clear hg3 hR2 HS2
  go_wp2_with fail
  refine (pick_any w.heap.size _ 30 _ hR3 (by omega) (by omega)).mono ?_
  rintro e w4 ⟨p, rfl, hp0, hp1, hR4, hg4⟩
  have hb4 : Below w.heap.size w w4 := hb3.grown hg4 hz3 (fun j hj => by injection hj with hj; omega)
  have HS4 := hide (LotSl.pick HS3.out hlt1 hg4)
  have hp29 : p ≤ 29 := by omega
  have hz4 := hb4.size
  clear hg4 hR3 HS3
  go_wp2_with fail
  refine (pick_any w.heap.size _ 20 _ hR4 (by omega) (by omega)).mono ?_
  rintro e w5 ⟨x, rfl, hx0, hx1, hR5, hg5⟩
  have hb5 : Below w.heap.size w w5 := hb4.grown hg5 hz4 (fun j hj => by injection hj with hj; omega)
  have HS5 := hide (LotSl.pick HS4.out hlt1 hg5)
  have hz5 := hb5.size
  obtain ⟨t, ht, ht0, ht1⟩ := tdiv19 hx0 (by omega)
  have hx19 : x ≤ 19 := by omega
  clear hg5 hR4 HS4
  go_wp2_with fail
  refine (pick_any w.heap.size _ 20 _ hR5 (by omega) (by omega)).mono ?_
  rintro e w6 ⟨y, rfl, hy0, hy1, hR6, hg6⟩
  have hb6 : Below w.heap.size w w6 := hb5.grown hg6 hz5 (fun j hj => by injection hj with hj; omega)
  have HS6 := hide (ownsRow_mono (LotSl.pick HS5.out hlt1 hg6) hz1)
  obtain ⟨u, hu, hu0, hu1⟩ := tdiv19 hy0 (by omega)
  have hy19 : y ≤ 19 := by omega
  clear hg6 hR5 HS5 hR6
  go_wp2_with fail
  refine bodyPost_ret (results_tmp3 rfl _ _ _) rfl ⟨ls, g, c2, d - 1, p + t * 30 - u * 40, rfl, HS6.out, hl, by omega, by omega, by omega, by omega, hb6⟩
end Go.Proofs.YtecmghoklleheaaDoor
