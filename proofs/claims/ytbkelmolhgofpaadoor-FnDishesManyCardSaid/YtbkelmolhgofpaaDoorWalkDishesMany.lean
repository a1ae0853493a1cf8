/- For all drawn bytes the law of DishesMany answers true, and its argument reads as it did.
   Conditions: none. -/
import Derived.Test.YtbkelmolhgofpaaDoorLawKit
import Derived.Test.YtbkelmolhgofpaaDoorLawBits
import Derived.Test.YtbkelmolhgofpaaDoorGuests2
namespace Go.Proofs.YtbkelmolhgofpaaDoor
open Go.RowKit Go.ChangeShapes Go.WideShapes Go.ChangeAt

theorem many_more_all : ∀ d : Fin 68, sz ((d.val : Int) + 1048576) = sz d.val + 1 := by decide +kernel
theorem many_more {d : Int} (h0 : 0 ≤ d) (h1 : d < 68) : sz (d + 1048576) = sz d + 1 := by
  have := many_more_all ⟨d.toNat, by omega⟩
  simpa only [Int.toNat_of_nonneg h0] using this

def DrawMany (w : World) (e : Ending) (w' : World) : Prop := ∃ d : Int, e = .returned (.int .i64 d) ∧ -2 ≤ d ∧ d ≤ 67 ∧ Below w.heap.size w w'

set_option maxHeartbeats 1000000 in
theorem drawDishesMany_any (A : Option Addr) (c m : Nat) (w : World) (hB : BytesIn w A m) (hm : m ≤ 9223372036854775807) (hc : m ≤ c) (hc2 : c ≤ 9223372036854775807) :
    Calls Tryd.prog 30 #[.slice A m c] w (DrawMany w) := by
  go_enter Tryd.func30, Tryd.ntmps30
  go_wp2_with fail
  refine (open_any A c m w hB hm hc hc2).mono ?_
  rintro e w1 ⟨rfl, hR1, hb1⟩
  have hz1 := hb1.size
  go_wp2_with fail
  refine (pick_any w.heap.size 0 70 _ hR1 (by omega) (by omega)).mono ?_
  rintro e w2 ⟨v, rfl, hv0, hv1, hR2, hg2⟩
  have hb2 : Below w.heap.size w w2 := hb1.grown hg2 hz1 (fun j hj => by injection hj with hj; omega)
  have hv69 : v ≤ 69 := by omega
  clear hg2
  go_wp2_with fail
  go_ret
  exact ⟨v - 2, rfl, by omega, by omega, hb2⟩

set_option maxRecDepth 100000 in
set_option maxHeartbeats 2000000 in
theorem lawDishesMany_any (A : Option Addr) (c m : Nat) (w : World) (hB : BytesIn w A m) (hc : m ≤ c) (hc2 : c ≤ 9223372036854775807) :
    Calls Tryd.prog 7 #[.slice A m c] w fun e w' => e = .returned (.bool true) ∧ Below w.heap.size w w' := by
  by_cases hlen : (1048576 : Int) < m
  · go_enter Tryd.func7, Tryd.ntmps7
    go_wp2_with fail
    go_ret
    exact ⟨rfl, by go_grown⟩
  · go_enter Tryd.func7, Tryd.ntmps7
    go_wp2_with fail
    refine (drawDishesMany_any A c m w hB (by omega) hc hc2).mono ?_
    rintro e w1 ⟨d, rfl, hd0, hd1, hb1⟩
    by_cases hneg : d < 0
    · have HI := hide (fun W => implDishesMany_any d W (by omega))
      have HS := hide (fun W => specDishesMany_any d W (by omega))
      have hm1 : manyL d = -1 := if_pos hneg
      rw [hm1] at HI HS
      clear hm1
      go_wp2_with fail
      refine (HI.out _).mono ?_
      rintro e w2 ⟨rfl, hB2⟩
      have hb2 := next hb1 hB2
      go_wp2_with fail
      refine (HS.out _).mono ?_
      rintro e w3 ⟨rfl, hB3⟩
      have hb3 := next hb2 hB3
      go_wp2_with fail
      refine (alive_any _).mono ?_
      rintro e w4 ⟨rfl, hB4⟩
      go_wp2_with fail
      go_ret
      exact ⟨rfl, next hb3 hB4⟩
    · have hd00 : 0 ≤ d := by omega
      have HI := hide (fun W => implDishesMany_any d W (by omega))
      have HS := hide (fun W => specDishesMany_any d W (by omega))
      have HM := hide (fun W => implDishesMany_any (d + 1048576) W (by omega))
      have HZ := hide (fun W => implDishesMany_any 0 W (by omega))
      have hmz : manyL 0 = 0 := by unfold manyL; rw [if_neg (by omega)]; decide +kernel
      have hm1 : manyL d = sz d := if_neg (by omega)
      have hm2 : manyL (d + 1048576) = sz d + 1 := by
        have : manyL (d + 1048576) = sz (d + 1048576) := if_neg (by omega)
        rw [this, many_more hd00 (by omega)]
      rw [hm1] at HI HS
      rw [hm2] at HM
      rw [hmz] at HZ
      have HB := hide (fun W => bitsOf_any d W hd00 (by omega))
      have hz := sz_bound d
      clear hm1 hm2 hmz
      generalize sz d = z at *
      have hzz : (z != z) = false := by simp
      have hzz2 : (z == z) = true := by simp
      have hz0 : ¬ z < 0 := by omega
      go_wp2_with fail
      refine (HI.out _).mono ?_
      rintro e w2 ⟨rfl, hB2⟩
      have hb2 := next hb1 hB2
      go_wp2_with fail
      refine (HS.out _).mono ?_
      rintro e w3 ⟨rfl, hB3⟩
      have hb3 := next hb2 hB3
      go_wp2_with fail
      refine (HM.out _).mono ?_
      rintro e w4 ⟨rfl, hB4⟩
      have hb4 := next hb3 hB4
      go_wp2_with fail
      refine (HB.out _).mono ?_
      rintro e w5 ⟨rfl, rfl⟩
      go_wp2_with fail
      refine (HZ.out _).mono ?_
      rintro e w6 ⟨rfl, hB6⟩
      go_wp2_with fail
      go_ret
      exact ⟨rfl, next hb4 hB6⟩
end Go.Proofs.YtbkelmolhgofpaaDoor
