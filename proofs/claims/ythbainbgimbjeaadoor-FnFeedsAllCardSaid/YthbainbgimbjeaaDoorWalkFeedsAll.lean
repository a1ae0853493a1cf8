/- For all drawn bytes the law of FeedsAll answers true, and its argument reads as it did.
   Conditions: none. -/
import Derived.Test.YthbainbgimbjeaaDoorLawKit
import Derived.Test.YthbainbgimbjeaaDoorDrawMenu
import Derived.Test.YthbainbgimbjeaaDoorLawBits
import Derived.Test.YthbainbgimbjeaaDoorDishMath2
import Derived.Test.YthbainbgimbjeaaDoorZ4
import Derived.Test.YthbainbgimbjeaaDoorGuests16
namespace Go.Proofs.YthbainbgimbjeaaDoor
open Go.RowKit Go.ChangeShapes Go.WideShapes Go.ChangeAt

theorem tdiv39 {p : Int} (h0 : 0 ≤ p) (h1 : p < 40) : ∃ t : Int, p.tdiv 39 = t ∧ 0 ≤ t ∧ t ≤ 1 := by
  refine ⟨_, rfl, ?_⟩
  rw [Int.tdiv_eq_ediv_of_nonneg h0]
  omega

/-- A number of guests, a menu, and dishes, drawn. -/
def DrewChosenR (w : World) (b n : Nat) (e : Ending) (w' : World) : Prop := ∃ (gs : Int) (ls : List Int) (g c : Nat) (d : Int), e = .returned (.tuple #[.int .i64 gs, .slice (some ⟨g, 0, none⟩) ls.length c, .int .i64 d]) ∧
  IntSl w' w.heap.size (.slice (some ⟨g, 0, none⟩) ls.length c) ls ∧ ls.length ≤ 7 ∧ (∀ x ∈ ls, 0 ≤ x ∧ x ≤ 64) ∧ -1 ≤ gs ∧ gs ≤ 7 ∧ -1000 ≤ d ∧ d ≤ 1000 ∧ Rd w' b (n + 24) ∧ w.grownBy w' (some b)

set_option maxRecDepth 100000 in
set_option maxHeartbeats 2000000 in
theorem l20ChosenR_any (b n : Nat) (w : World) (hR : Rd w b n) (hn : n ≤ 70000) :
    Calls Tryd.prog 29 #[.pointer (some ⟨b, 0, none⟩)] w (DrewChosenR w b n) := by
  have hblt := hR.lt
  go_enter Tryd.func29, Tryd.ntmps29
  go_wp2_with fail
  refine (l20Menu_any b n 12 _ hR (by omega) (by omega)).mono ?_
  rintro e w1 ⟨gs, ls, g, c, rfl, hS1, hl7, hle, hg0, hg7, hR1, hg1⟩
  have HS1 := hide hS1
  have HG1 := hide hg1
  have HLE := hide hle
  obtain ⟨L, HL⟩ : ∃ L, Hid (ls.length = L) := ⟨_, hide rfl⟩
  have hz1 := HG1.out.size
  clear hS1 hg1 hle
  rw [HL.out] at HS1 hl7 ⊢
  obtain ⟨T, hT, hT6⟩ : ∃ T : Nat, (min (L : Int) 6).toNat = T ∧ T ≤ 6 := ⟨_, rfl, by omega⟩
  have hp := pow_range6 T hT6
  have hblt1 := hR1.lt
  go_wp2_with fail
  clear hT
  refine (pick_any b _ (2 ^ T) _ hR1 (by omega) (by omega)).mono ?_
  rintro e w2 ⟨v, rfl, hv0, hv1, hR2, hg2⟩
  have HS2 := hide (HS1.out.pick (by omega) hg2)
  have HG2 := hide (HG1.out.trans hg2)
  have hv64 : v ≤ 64 := by omega
  clear hg2 HS1 HG1 hR1
  go_wp2_with fail
  refine (pick_any b _ 40 _ hR2 (by omega) (by omega)).mono ?_
  rintro e w3 ⟨p, rfl, hp0, hp1, hR3, hg3⟩
  have HS3 := hide (HS2.out.pick (by omega) hg3)
  have HG3 := hide (HG2.out.trans hg3)
  obtain ⟨t, ht, ht0, ht1⟩ := tdiv39 hp0 (by omega)
  have hp39 : p ≤ 39 := by omega
  clear hg3 HS2 HG2 hR2
  go_wp2_with fail
  refine (pick_any b _ 40 _ hR3 (by omega) (by omega)).mono ?_
  rintro e w4 ⟨x, rfl, hx0, hx1, hR4, hg4⟩
  have HS4 := hide (HS3.out.pick (by omega) hg4)
  have HG4 := hide (HG3.out.trans hg4)
  obtain ⟨u, hu, hu0, hu1⟩ := tdiv39 hx0 (by omega)
  have hx39 : x ≤ 39 := by omega
  clear hg4 HS3 HG3 hR3
  go_wp2_with fail
  refine bodyPost_ret (results_tmp3 rfl _ _ _) rfl ⟨gs, ls, g, c, v + t * 64 - u * 90, by rw [HL.out]; rfl, by rw [HL.out]; exact HS4.out, by rw [HL.out]; exact hl7, HLE.out, hg0, hg7, by omega, by omega, hR4.mono (by omega), HG4.out⟩

def DrawnFeedsAll (w : World) (e : Ending) (w' : World) : Prop := ∃ (gs : Int) (ls : List Int) (g c : Nat) (d : Int), e = .returned (.tuple #[.int .i64 gs, .slice (some ⟨g, 0, none⟩) ls.length c, .int .i64 d]) ∧
  IntsAt w' (some ⟨g, 0, none⟩) ls ∧ ls.length ≤ 7 ∧ -1 ≤ gs ∧ gs ≤ 7 ∧ -1000 ≤ d ∧ d ≤ 1000 ∧ Below w.heap.size w w'

set_option maxRecDepth 100000 in
set_option maxHeartbeats 2000000 in
theorem drawFeedsAll_any (A : Option Addr) (c m : Nat) (w : World) (hB : BytesIn w A m) (hm : m ≤ 9223372036854775807) (hc : m ≤ c) (hc2 : c ≤ 9223372036854775807) :
    Calls Tryd.prog 8 #[.slice A m c] w (DrawnFeedsAll w) := by
  go_enter Tryd.func8, Tryd.ntmps8
  go_wp2_with fail
  refine (open_any A c m w hB hm hc hc2).mono ?_
  rintro e w1 ⟨rfl, hR1, hb1⟩
  have hz1 := hb1.size
  go_wp2_with fail
  refine (l20ChosenR_any w.heap.size 0 _ hR1 (by omega)).mono ?_
  rintro e w2 ⟨gs, ls, g, c2, d, rfl, hS2, hl7, hle, hg0, hg7, hd0, hd1, hR2, hg2⟩
  have hb2 : Below w.heap.size w w2 := hb1.grown hg2 hz1 (fun j hj => by injection hj with hj; omega)
  have hz2 := hg2.size
  have hblt := hR1.lt
  have HS2 := hide hS2
  clear hg2 hS2 hle
  obtain ⟨L, HL⟩ : ∃ L, Hid (ls.length = L) := ⟨_, hide rfl⟩
  rw [HL.out] at HS2 hl7 ⊢
  go_wp2_with fail
  refine (pick_any w.heap.size _ 2 _ hR2 (by omega) (by omega)).mono ?_
  rintro e w3 ⟨v, rfl, hv0, hv1, hR3, hg3⟩
  have HS3 := hide (IntSl.ints (HS2.out.pick (by omega) hg3))
  have hb3 : Below w.heap.size w w3 := hb2.grown hg3 (by have := hb2.size; omega) (fun j hj => by injection hj with hj; omega)
  clear hg3 HS2 hb2 hR3
  by_cases hv : v = 0
  · subst hv
    obtain ⟨T, hT, hT6⟩ : ∃ T : Nat, (min (L : Int) 6).toNat = T ∧ T ≤ 6 := ⟨_, rfl, by omega⟩
    have hp := pow_range6 T hT6
    go_wp2_with fail
    go_region
    all_goals
      go_wp2_with fail
      refine bodyPost_ret (results_tmp3 rfl _ _ _) rfl ⟨gs, ls, g, c2, 2 ^ T - 1, by rw [HL.out]; rfl, HS3.out, by rw [HL.out]; exact hl7, hg0, hg7, by omega, by omega, ⟨hb3.os, hb3.tape, hb3.output, hb3.size, hb3.block⟩⟩
  · have hvb : (v == 0) = false := by simpa using hv
    go_wp2_with fail
    refine bodyPost_ret (results_tmp3 rfl _ _ _) rfl ⟨gs, ls, g, c2, d, by rw [HL.out]; rfl, HS3.out, by rw [HL.out]; exact hl7, hg0, hg7, hd0, hd1, hb3⟩

set_option maxRecDepth 100000 in
set_option maxHeartbeats 4000000 in
theorem lawFeedsAll_any (A : Option Addr) (c m : Nat) (w : World) (hB : BytesIn w A m) (hc : m ≤ c) (hc2 : c ≤ 9223372036854775807) :
    Calls Tryd.prog 3 #[.slice A m c] w fun e w' => e = .returned (.bool true) ∧ Below w.heap.size w w' := by
  by_cases hlen : (1048576 : Int) < m
  · go_enter Tryd.func3, Tryd.ntmps3
    go_wp2_with fail
    go_ret
    exact ⟨rfl, by go_grown⟩
  · go_enter Tryd.func3, Tryd.ntmps3
    go_wp2_with fail
    refine (drawFeedsAll_any A c m w hB (by omega) hc hc2).mono ?_
    rintro e w1 ⟨gs, ls, g, c1, d, rfl, hI, hl7, hg0, hg7, hd0, hd1, hb1⟩
    have HI1 := hide hI
    clear hI
    cases hF : feedsL gs ls d with
    | false =>
      have HF := hide hF
      clear hF
      go_wp2_with fail
      refine (implFeedsAll_any _ _ _ _ _ _ HI1.out (by omega)).mono ?_
      rintro e w2 ⟨rfl, hB2⟩
      rw [HF.out]
      have hb2 := next hb1 hB2
      have HI2 := hide (HI1.out.below hB2)
      clear hB2 HI1
      go_wp2_with fail
      refine (specFeedsAll_any _ _ _ _ _ _ HI2.out (by omega)).mono ?_
      rintro e w3 ⟨rfl, hB3⟩
      rw [HF.out]
      have hb3 := next hb2 hB3
      clear hB3
      go_wp2_with fail
      refine (alive_any _).mono ?_
      rintro e w9 ⟨rfl, hB9⟩
      go_wp2_with fail
      go_ret
      exact ⟨rfl, next hb3 hB9⟩
    | true =>
      have HF := hide hF
      have HA := hide (feeds_all hF)
      obtain ⟨hM, hd00, hdf⟩ := feeds_rng hF
      have h6 := menuOk_len hM
      have hf := fullN_len h6
      have hp6 := pow_range6 ls.length h6
      obtain ⟨hl0, -, hl1, hl64⟩ := least_said hF
      have ha := apartMost_le hF
      obtain ⟨l, HL⟩ : ∃ l, Hid (dishesLeastL gs ls = l) := ⟨_, hide rfl⟩
      obtain ⟨a, HP⟩ : ∃ a, Hid (apartMostL gs ls = a) := ⟨_, hide rfl⟩
      rw [HL.out] at hl0 hl1 hl64
      rw [HP.out] at ha
      have hr := sz_range (x := l) hl0 hl64
      have hr2 := sz_range (x := d) hd00 (by omega)
      obtain ⟨x, HX⟩ : ∃ x, Hid (sz l = x) := ⟨_, hide rfl⟩
      obtain ⟨y, HY⟩ : ∃ y, Hid (sz d = y) := ⟨_, hide rfl⟩
      rw [HX.out] at hl1 hr
      rw [HY.out] at hl1 ha hr2
      have hd1' : decide (x ≤ y) = true := decide_eq_true hl1
      have hd2' : decide (a ≤ y) = true := decide_eq_true ha
      have hd64 : d < 64 := by omega
      clear hF hM
      go_wp2_with fail
      refine (implFeedsAll_any _ _ _ _ _ _ HI1.out (by omega)).mono ?_
      rintro e w2 ⟨rfl, hB2⟩
      rw [HF.out]
      have hb2 := next hb1 hB2
      have HI2 := hide (HI1.out.below hB2)
      clear hB2 HI1
      go_wp2_with fail
      refine (specFeedsAll_any _ _ _ _ _ _ HI2.out (by omega)).mono ?_
      rintro e w3 ⟨rfl, hB3⟩
      rw [HF.out]
      have hb3 := next hb2 hB3
      have HI3 := hide (HI2.out.below hB3)
      clear hB3 HI2
      go_wp2_with fail
      refine (implDishesLeast_any _ _ _ _ _ HI3.out (by omega)).mono ?_
      rintro e w4 ⟨rfl, hB4⟩
      rw [HL.out]
      have hb4 := next hb3 hB4
      have HI4 := hide (HI3.out.below hB4)
      clear hB4 HI3
      go_wp2_with fail
      refine (bitsOf_any _ _ hl0 (by omega)).mono ?_
      rintro e w5 ⟨rfl, rfl⟩
      rw [HX.out]
      go_wp2_with fail
      refine (bitsOf_any _ _ hd00 (by omega)).mono ?_
      rintro e w5 ⟨rfl, rfl⟩
      rw [HY.out]
      go_wp2_with fail
      refine (implApartMost_any _ _ _ _ _ HI4.out (by omega)).mono ?_
      rintro e w6 ⟨rfl, hB6⟩
      rw [HP.out]
      have hb6 := next hb4 hB6
      have HI6 := hide (HI4.out.below hB6)
      clear hB6 HI4
      go_wp2_with fail
      refine (bitsOf_any _ _ hd00 (by omega)).mono ?_
      rintro e w5 ⟨rfl, rfl⟩
      rw [HY.out]
      go_wp2_with fail
      refine (implFeedsAll_any _ _ _ _ (full ls.length) _ HI6.out (by omega)).mono ?_
      rintro e w7 ⟨rfl, hB7⟩
      rw [HA.out]
      have hb7 := next hb6 hB7
      go_wp2_with fail
      go_ret
      exact ⟨rfl, hb7⟩
end Go.Proofs.YthbainbgimbjeaaDoor
