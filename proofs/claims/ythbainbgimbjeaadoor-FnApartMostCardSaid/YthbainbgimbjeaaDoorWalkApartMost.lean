/- For all drawn bytes the law of ApartMost answers true, and its argument reads as it did.
   Conditions: none. -/
import Derived.Test.YthbainbgimbjeaaDoorLawKit
import Derived.Test.YthbainbgimbjeaaDoorDrawMenu
import Derived.Test.YthbainbgimbjeaaDoorLawBits
import Derived.Test.YthbainbgimbjeaaDoorDishMath2
import Derived.Test.YthbainbgimbjeaaDoorZ4
import Derived.Test.YthbainbgimbjeaaDoorGuests16
namespace Go.Proofs.YthbainbgimbjeaaDoor
open Go.RowKit Go.ChangeShapes Go.WideShapes Go.ChangeAt

def DrawnApartMost (w : World) (e : Ending) (w' : World) : Prop := ∃ (gs : Int) (ls : List Int) (g c : Nat), e = .returned (.tuple #[.int .i64 gs, .slice (some ⟨g, 0, none⟩) ls.length c]) ∧
  IntsAt w' (some ⟨g, 0, none⟩) ls ∧ ls.length ≤ 7 ∧ -1 ≤ gs ∧ gs ≤ 7 ∧ Below w.heap.size w w'

set_option maxHeartbeats 1000000 in
theorem drawApartMost_any (A : Option Addr) (c m : Nat) (w : World) (hB : BytesIn w A m) (hm : m ≤ 9223372036854775807) (hc : m ≤ c) (hc2 : c ≤ 9223372036854775807) :
    Calls Tryd.prog 23 #[.slice A m c] w (DrawnApartMost w) := by
  go_enter Tryd.func23, Tryd.ntmps23
  go_wp2_with fail
  refine (open_any A c m w hB hm hc hc2).mono ?_
  rintro e w1 ⟨rfl, hR1, hb1⟩
  have hz1 := hb1.size
  go_wp2_with fail
  refine (l20Menu_any w.heap.size 0 9 _ hR1 (by omega) (by omega)).mono ?_
  rintro e w2 ⟨gs, ls, g, c2, rfl, hS2, hl7, hle, hg0, hg7, hR2, hg2⟩
  have hb2 : Below w.heap.size w w2 := hb1.grown hg2 hz1 (fun j hj => by injection hj with hj; omega)
  have HS2 := hide (IntSl.ints hS2)
  clear hg2 hS2 hle
  go_wp2_with fail
  refine bodyPost_ret (results_tmp2 rfl _ _ _) rfl ⟨gs, ls, g, c2, rfl, HS2.out, hl7, hg0, hg7, hb2⟩

set_option maxRecDepth 100000 in
set_option maxHeartbeats 4000000 in
theorem lawApartMost_any (A : Option Addr) (c m : Nat) (w : World) (hB : BytesIn w A m) (hc : m ≤ c) (hc2 : c ≤ 9223372036854775807) :
    Calls Tryd.prog 6 #[.slice A m c] w fun e w' => e = .returned (.bool true) ∧ Below w.heap.size w w' := by
  by_cases hlen : (1048576 : Int) < m
  · go_enter Tryd.func6, Tryd.ntmps6
    go_wp2_with fail
    go_ret
    exact ⟨rfl, by go_grown⟩
  · go_enter Tryd.func6, Tryd.ntmps6
    go_wp2_with fail
    refine (drawApartMost_any A c m w hB (by omega) hc hc2).mono ?_
    rintro e w1 ⟨gs, ls, g, c1, rfl, hI, hl7, hg0, hg7, hb1⟩
    have HI1 := hide hI
    obtain ⟨v, HV⟩ : ∃ v, Hid (apartMostL gs ls = v) := ⟨_, hide rfl⟩
    have hbb : (v != v) = false := by simp
    clear hI
    go_wp2_with fail
    refine (implApartMost_any _ _ _ _ _ HI1.out (by omega)).mono ?_
    rintro e w2 ⟨rfl, hB2⟩
    rw [HV.out]
    have hb2 := next hb1 hB2
    have HI2 := hide (HI1.out.below hB2)
    clear hB2 HI1
    go_wp2_with fail
    refine (specApartMost_any _ _ _ _ _ HI2.out (by omega)).mono ?_
    rintro e w3 ⟨rfl, hB3⟩
    rw [HV.out]
    have hb3 := next hb2 hB3
    have HI3 := hide (HI2.out.below hB3)
    clear hB3 HI2
    cases hM : menuOk gs ls with
    | false =>
      obtain rfl : v = -1 := by rw [← HV.out]; unfold apartMostL; rw [hM]; rfl
      clear hM
      go_wp2_with fail
      refine (alive_any _).mono ?_
      rintro e w9 ⟨rfl, hB9⟩
      go_wp2_with fail
      go_ret
      exact ⟨rfl, next hb3 hB9⟩
    | true =>
      have hG := apartMost_guests hM
      rw [HV.out] at hG
      obtain ⟨hv0, hv1, hv2⟩ := hG
      have hgs := (menuOk_g hM).2
      have hd1 : decide (v < 0) = false := decide_eq_false (by omega)
      have hd2 : decide (v ≤ gs) = true := decide_eq_true hv1
      obtain ⟨l, HL⟩ : ∃ l, Hid (dishesLeastL gs ls = l) := ⟨_, hide rfl⟩
      obtain ⟨p, hp⟩ : ∃ p, decide (0 < gs) = p := ⟨_, rfl⟩
      rw [hp] at hv2
      have hpp : (p == p) = true := by simp
      cases hl : decide (l < 0) with
      | true =>
        clear hM
        go_wp2_with fail
        refine (implDishesLeast_any _ _ _ _ _ HI3.out (by omega)).mono ?_
        rintro e w4 ⟨rfl, hB4⟩
        rw [HL.out]
        have hb4 := next hb3 hB4
        clear hB4
        go_wp2_with fail
        go_ret
        exact ⟨rfl, hb4⟩
      | false =>
        have hl0 : 0 ≤ l := by have := of_decide_eq_false hl; omega
        have hF := (least_feeds (g := gs) (m := ls) (by rw [HL.out]; exact hl0)).1
        have hA := apartMost_le hF
        have hS := (least_said hF).2.2.2
        rw [HL.out] at hA hS
        rw [HV.out] at hA
        have hr := sz_range (x := l) hl0 hS
        obtain ⟨y, HY⟩ : ∃ y, Hid (sz l = y) := ⟨_, hide rfl⟩
        rw [HY.out] at hA hr
        have hd3 : decide (v ≤ y) = true := decide_eq_true hA
        clear hM hF
        go_wp2_with fail
        refine (implDishesLeast_any _ _ _ _ _ HI3.out (by omega)).mono ?_
        rintro e w4 ⟨rfl, hB4⟩
        rw [HL.out]
        have hb4 := next hb3 hB4
        clear hB4
        go_wp2_with fail
        refine (bitsOf_any _ _ hl0 (by omega)).mono ?_
        rintro e w5 ⟨rfl, rfl⟩
        rw [HY.out]
        go_wp2_with fail
        go_ret
        exact ⟨rfl, hb4⟩
end Go.Proofs.YthbainbgimbjeaaDoor
