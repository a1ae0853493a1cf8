/- For all drawn bytes the law of SeatsFirst answers true, and its argument reads as it did.
   Conditions: none. -/
import Derived.Test.YtgpcbigaeodhfaaDoorLawKit
import Derived.Test.YtgpcbigaeodhfaaDoorDrawQuar
import Derived.Test.YtgpcbigaeodhfaaDoorZ3
import Derived.Test.YtgpcbigaeodhfaaDoorZ4
import Derived.Test.YtgpcbigaeodhfaaDoorGuests11
import Derived.Test.YtgpcbigaeodhfaaDoorGuests15
import Derived.Test.YtgpcbigaeodhfaaDoorSeatMath2
import Derived.Test.YtgpcbigaeodhfaaDoorLawBits
import Derived.Test.YtgpcbigaeodhfaaDoorLists
namespace Go.Proofs.YtgpcbigaeodhfaaDoor
open Go.RowKit Go.ChangeShapes Go.WideShapes Go.ChangeAt Go.Deep

def DrawnSeatsFirst (w : World) (e : Ending) (w' : World) : Prop := ∃ (gs : Int) (ls : List Int) (g c : Nat), e = .returned (.tuple #[.int .i64 gs, .slice (some ⟨g, 0, none⟩) ls.length c]) ∧
  IntsAt w' (some ⟨g, 0, none⟩) ls ∧ ls.length ≤ 7 ∧ 0 ≤ gs ∧ gs ≤ 6 ∧ Below w.heap.size w w'

set_option maxHeartbeats 1000000 in
theorem drawSeatsFirst_any (A : Option Addr) (c m : Nat) (w : World) (hB : BytesIn w A m) (hm : m ≤ 9223372036854775807) (hc : m ≤ c) (hc2 : c ≤ 9223372036854775807) :
    Calls Tryd.prog 34 #[.slice A m c] w (DrawnSeatsFirst w) := by
  go_enter Tryd.func34, Tryd.ntmps34
  go_wp2_with fail
  refine (open_any A c m w hB hm hc hc2).mono ?_
  rintro e w1 ⟨rfl, hR1, hb1⟩
  have hz1 := hb1.size
  go_wp2_with fail
  refine (l20Quarrels_any w.heap.size 0 9 _ hR1 (by omega) (by omega)).mono ?_
  rintro e w2 ⟨gs, ls, g, c2, rfl, hS2, hl7, hle, hg0, hg6, hR2, hg2⟩
  have hb2 : Below w.heap.size w w2 := hb1.grown hg2 hz1 (fun j hj => by injection hj with hj; omega)
  have HS2 := hide (IntSl.ints hS2)
  clear hg2 hS2 hle
  go_wp2_with fail
  refine bodyPost_ret (results_tmp2 rfl _ _ _) rfl ⟨gs, ls, g, c2, rfl, HS2.out, hl7, hg0, hg6, hb2⟩

set_option maxRecDepth 100000 in
set_option maxHeartbeats 4000000 in
theorem lawSeatsFirst_any (A : Option Addr) (c m : Nat) (w : World) (hB : BytesIn w A m) (hc : m ≤ c) (hc2 : c ≤ 9223372036854775807) :
    Calls Tryd.prog 8 #[.slice A m c] w fun e w' => e = .returned (.bool true) ∧ Below w.heap.size w w' := by
  by_cases hlen : (1048576 : Int) < m
  · go_enter Tryd.func8, Tryd.ntmps8
    go_wp2_with fail
    go_ret
    exact ⟨rfl, by go_grown⟩
  · go_enter Tryd.func8, Tryd.ntmps8
    go_wp2_with fail
    refine (drawSeatsFirst_any A c m w hB (by omega) hc hc2).mono ?_
    rintro e w1 ⟨gs, ls, g, c1, rfl, hI, hl7, hg0, hg6, hb1⟩
    have HI1 := hide hI
    obtain ⟨ss, HSS⟩ : ∃ ss, Hid (seatsFirstL gs ls = ss) := ⟨_, hide rfl⟩
    have hsl : ss.length ≤ 7 := by rw [← HSS.out]; exact Nat.le_trans (seatsFirstL_len _ _) hl7
    clear hI
    go_wp2_with fail
    refine (implSeatsFirst_any _ _ _ _ _ HI1.out (by omega)).mono ?_
    rintro e w2 ⟨v2, rfl, hS2, hB2⟩
    rw [HSS.out] at hS2
    obtain ⟨A2, d2, rfl, hSI2, -⟩ := hS2.form
    have hb2 := next hb1 hB2
    have HI2 := hide (HI1.out.below hB2)
    have HSI2 := hide hSI2
    clear hB2 HI1 hS2 hSI2
    go_wp2_with fail
    refine (specSeatsFirst_any _ _ _ _ _ HI2.out (by omega)).mono ?_
    rintro e w3 ⟨v3, rfl, hS3, hB3⟩
    rw [HSS.out] at hS3
    obtain ⟨A3, d3, rfl, hSI3, -⟩ := hS3.form
    have hb3 := next hb2 hB3
    have HI3 := hide (HI2.out.below hB3)
    have HSI3 := hide (HSI2.out.below hB3)
    have HSJ3 := hide hSI3
    clear hB3 HI2 HSI2 hS3 hSI3
    go_wp2_with fail
    refine (sameInts_same _ _ _ _ _ _ HSI3.out HSJ3.out (by omega)).mono ?_
    rintro e w4 ⟨rfl, hB4⟩
    have hb4 := next hb3 hB4
    have HI4 := hide (HI3.out.below hB4)
    have HSI4 := hide (HSI3.out.below hB4)
    clear hB4 HI3 HSI3 HSJ3
    obtain ⟨b, HQ⟩ : ∃ b, Hid (quarOk gs ls = b) := ⟨_, hide rfl⟩
    go_wp2_with fail
    refine (specQuarrelsValid_any _ _ _ _ _ HI4.out (by omega)).mono ?_
    rintro e w5 ⟨rfl, hB5⟩
    rw [HQ.out]
    have hb5 := next hb4 hB5
    have HI5 := hide (HI4.out.below hB5)
    have HSI5 := hide (HSI4.out.below hB5)
    clear hB5 HI4 HSI4
    cases b with
    | false =>
      have he : ss = [] := by rw [← HSS.out]; exact sf_no HQ.out
      subst he
      have h0 : ((([] : List Int).length : Int) == 0) = true := rfl
      go_wp2_with fail
      refine (alive_any _).mono ?_
      rintro e we ⟨rfl, hBe⟩
      go_wp2_with fail
      go_ret
      exact ⟨rfl, next hb5 hBe⟩
    | true =>
      have hgl := (quarOk_g HQ.out).2.2
      have HWF : Hid (∀ x ∈ ss, (Lit.int .i64 x).wf = true) := hide (fun x hx => WalkArith.wf_i64 (by
        have h := (seats_at (first_ok HQ.out)).2.2.1 x (by rw [HSS.out]; exact hx)
        omega))
      have HSO : Hid (seatsOkL gs ls ss = true) := hide (by rw [← HSS.out]; exact first_ok HQ.out)
      obtain ⟨N, HN⟩ : ∃ N, Hid (manyGo [] ss = N) := ⟨_, hide rfl⟩
      have HMM : Hid (∀ M : Nat, (∀ a, a < ls.length → sz (ls.getD a 0) ≤ M) → N ≤ (M : Int) + 1) := hide (fun M h => by rw [← HN.out, ← HSS.out]; exact first_few HQ.out h)
      have HRG : Hid (∀ a, 0 ≤ ls.getD a 0 ∧ ls.getD a 0 < 64) := hide (fun a => ⟨(quarOk_getD HQ.out a).1, (quarOk_getD HQ.out a).2.2⟩)
      go_wp2_with fail
      go_loopw [6, 7] (fun mv i wr => ∃ (k M : Nat), k ≤ ls.length ∧ i = .int .i64 k ∧ mv = .int .i64 M ∧ M ≤ 64 ∧ Hid (∀ a, a < k → sz (ls.getD a 0) ≤ (M : Int)) ∧ wr = w5) (fun _ i _ => ls.length - (intOf i).toNat)
      case atStart => exact ⟨0, 0, Nat.zero_le _, rfl, rfl, by omega, hide (fun a ha => absurd ha (by omega)), rfl⟩
      case round =>
        obtain ⟨k, M, hk, rfl, rfl, hM, HB, rfl⟩ := hrel
        by_cases hlt : k < ls.length
        · obtain ⟨b4, off4, he, hbl4, hr4⟩ := HI5.out k ls[k] (List.getElem?_eq_getElem hlt)
          injection he with he
          injection he with he1 he2
          subst he1 he2
          rw [Nat.zero_add] at hr4
          have hrg := HRG.out k
          have HX : Hid (ls.getD k 0 = ls[k]) := hide (by simp [hlt])
          rw [HX.out] at hrg
          generalize ls[k] = x at *
          obtain ⟨z, HZ⟩ : ∃ z, Hid (sz x = (z : Nat)) := ⟨(sz x).toNat, hide (by have := sz_range hrg.1 hrg.2; omega)⟩
          have hz6 : z ≤ 6 := by have h1 := sz_range hrg.1 hrg.2; rw [HZ.out] at h1; omega
          have hx0 := hrg.1
          have hx1 : x < 128 := by have := hrg.2; omega
          have hz : (0 : Int) ≤ k := by omega
          have hz2 : (k : Int) < gs := by omega
          have hz3 : (k : Int) < ls.length := by omega
          clear hrg
          by_cases hc : z ≤ M
          · have hmx : ¬ (M : Int) < (z : Int) := by omega
            have hmx2 : max (M : Int) (z : Int) = (M : Int) := by omega
            have HT : Hid (∀ a, a < k + 1 → sz (ls.getD a 0) ≤ (M : Int)) := hide (fun a ha => by
              rcases Nat.lt_or_ge a k with e | e
              · exact HB.out a e
              · obtain rfl : a = k := by omega
                rw [HX.out, HZ.out]
                omega)
            clear hc
            go_wp2_with fail
            refine (bitsOf_any _ _ hx0 hx1).mono ?_
            rintro e w' ⟨rfl, rfl⟩
            rw [HZ.out]
            go_wp2_with fail
            go_roundw
            case rel => exact ⟨k + 1, M, hlt, by go_num, by first | rfl | rw [hmx2], hM, HT, trivial⟩
            case measure => simp [intOf]; omega
          · have hmx : (M : Int) < (z : Int) := by omega
            have hmx2 : max (M : Int) (z : Int) = (z : Int) := by omega
            have HT : Hid (∀ a, a < k + 1 → sz (ls.getD a 0) ≤ (z : Int)) := hide (fun a ha => by
              rcases Nat.lt_or_ge a k with e | e
              · have := HB.out a e
                omega
              · obtain rfl : a = k := by omega
                rw [HX.out, HZ.out]
                exact Int.le_refl _)
            clear hc
            go_wp2_with fail
            refine (bitsOf_any _ _ hx0 hx1).mono ?_
            rintro e w' ⟨rfl, rfl⟩
            rw [HZ.out]
            go_wp2_with fail
            go_roundw
            case rel => exact ⟨k + 1, z, hlt, by go_num, by first | rfl | rw [hmx2], by omega, HT, trivial⟩
            case measure => simp [intOf]; omega
        · obtain rfl : k = ls.length := by omega
          have hz2 : ¬ ((ls.length : Nat) : Int) < gs := by omega
          have hNM : N ≤ (M : Int) + 1 := HMM.out M HB.out
          have hd : decide (N ≤ (M : Int) + 1) = true := decide_eq_true hNM
          go_wp2_with fail
          refine (implSeatsOk_any _ _ _ _ _ _ _ _ HI5.out (by omega) HSI5.out (by omega)).mono ?_
          rintro e w6 ⟨rfl, hB6⟩
          rw [HSO.out]
          have hb6 := next hb5 hB6
          have HSI6 := hide (HSI5.out.below hB6)
          go_wp2_with fail
          refine (implSeatsMany_any _ _ _ _ HSI6.out (by omega) HWF.out).mono ?_
          rintro e w7 ⟨rfl, hB7⟩
          rw [HN.out]
          go_wp2_with fail
          go_ret
          exact ⟨rfl, next hb6 hB7⟩
end Go.Proofs.YtgpcbigaeodhfaaDoor
