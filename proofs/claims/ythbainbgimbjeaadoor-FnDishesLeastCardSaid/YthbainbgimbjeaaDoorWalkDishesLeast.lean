/- For all drawn bytes the law of DishesLeast answers true, and its argument reads as it did.
   Conditions: none. -/
import Derived.Test.YthbainbgimbjeaaDoorLawKit
import Derived.Test.YthbainbgimbjeaaDoorDrawMenu
import Derived.Test.YthbainbgimbjeaaDoorLawBits
import Derived.Test.YthbainbgimbjeaaDoorDishMath2
import Derived.Test.YthbainbgimbjeaaDoorZ4
import Derived.Test.YthbainbgimbjeaaDoorGuests16
namespace Go.Proofs.YthbainbgimbjeaaDoor
open Go.RowKit Go.ChangeShapes Go.WideShapes Go.ChangeAt

def DrawnDishesLeast (w : World) (e : Ending) (w' : World) : Prop := ∃ (gs : Int) (ls : List Int) (g c : Nat), e = .returned (.tuple #[.int .i64 gs, .slice (some ⟨g, 0, none⟩) ls.length c]) ∧
  IntsAt w' (some ⟨g, 0, none⟩) ls ∧ ls.length ≤ 7 ∧ -1 ≤ gs ∧ gs ≤ 7 ∧ Below w.heap.size w w'

set_option maxHeartbeats 1000000 in
theorem drawDishesLeast_any (A : Option Addr) (c m : Nat) (w : World) (hB : BytesIn w A m) (hm : m ≤ 9223372036854775807) (hc : m ≤ c) (hc2 : c ≤ 9223372036854775807) :
    Calls Tryd.prog 15 #[.slice A m c] w (DrawnDishesLeast w) := by
  go_enter Tryd.func15, Tryd.ntmps15
  go_wp2_with fail
  refine (open_any A c m w hB hm hc hc2).mono ?_
  rintro e w1 ⟨rfl, hR1, hb1⟩
  have hz1 := hb1.size
  go_wp2_with fail
  refine (l20Menu_any w.heap.size 0 9 _ hR1 (by omega) (by omega)).mono ?_
  rintro e w2 ⟨gs, ls, g, c2, rfl, hS2, hl7, hle, hg0, hg7, hR2, hg2⟩
  have hb2 : Below w.heap.size w w2 := hb1.grown hg2 hz1 (fun j hj => by injection hj with hj; omega)
  have HS2 := hide (IntSl.ints hS2)
  clear hg2 hS2 hle
  go_wp2_with fail
  refine bodyPost_ret (results_tmp2 rfl _ _ _) rfl ⟨gs, ls, g, c2, rfl, HS2.out, hl7, hg0, hg7, hb2⟩

set_option maxRecDepth 100000 in
set_option maxHeartbeats 4000000 in
theorem lawDishesLeast_any (A : Option Addr) (c m : Nat) (w : World) (hB : BytesIn w A m) (hc : m ≤ c) (hc2 : c ≤ 9223372036854775807) :
    Calls Tryd.prog 4 #[.slice A m c] w fun e w' => e = .returned (.bool true) ∧ Below w.heap.size w w' := by
  by_cases hlen : (1048576 : Int) < m
  · go_enter Tryd.func4, Tryd.ntmps4
    go_wp2_with fail
    go_ret
    exact ⟨rfl, by go_grown⟩
  · go_enter Tryd.func4, Tryd.ntmps4
    go_wp2_with fail
    refine (drawDishesLeast_any A c m w hB (by omega) hc hc2).mono ?_
    rintro e w1 ⟨gs, ls, g, c1, rfl, hI, hl7, hg0, hg7, hb1⟩
    have HI1 := hide hI
    obtain ⟨v, HV⟩ : ∃ v, Hid (dishesLeastL gs ls = v) := ⟨_, hide rfl⟩
    have hbb : (v != v) = false := by simp
    clear hI
    go_wp2_with fail
    refine (implDishesLeast_any _ _ _ _ _ HI1.out (by omega)).mono ?_
    rintro e w2 ⟨rfl, hB2⟩
    rw [HV.out]
    have hb2 := next hb1 hB2
    have HI2 := hide (HI1.out.below hB2)
    clear hB2 HI1
    go_wp2_with fail
    refine (specDishesLeast_any _ _ _ _ _ HI2.out (by omega)).mono ?_
    rintro e w3 ⟨rfl, hB3⟩
    rw [HV.out]
    have hb3 := next hb2 hB3
    have HI3 := hide (HI2.out.below hB3)
    clear hB3 HI2
    cases hM : menuOk gs ls with
    | false =>
      obtain rfl : v = -1 := by rw [← HV.out]; unfold dishesLeastL; rw [hM]; rfl
      have HM := hide hM
      clear hM
      go_wp2_with fail
      refine (specMenuValid_any _ _ _ _ _ HI3.out (by omega)).mono ?_
      rintro e w4 ⟨rfl, hB4⟩
      rw [HM.out]
      have hb4 := next hb3 hB4
      clear hB4
      go_wp2_with fail
      refine (alive_any _).mono ?_
      rintro e w9 ⟨rfl, hB9⟩
      go_wp2_with fail
      go_ret
      exact ⟨rfl, next hb4 hB9⟩
    | true =>
      have h6 := menuOk_len hM
      have hf := fullN_len h6
      have hp6 := pow_range6 ls.length h6
      have HM := hide hM
      cases hv : decide (v < 0) with
      | true =>
        have hN := least_none (g := gs) (m := ls) (by rw [HV.out]; exact of_decide_eq_true hv)
        obtain rfl : v = -1 := by rw [← HV.out]; exact hN.1
        have HN := hide hN.2
        clear hN hM
        go_wp2_with fail
        refine (specMenuValid_any _ _ _ _ _ HI3.out (by omega)).mono ?_
        rintro e w4 ⟨rfl, hB4⟩
        rw [HM.out]
        have hb4 := next hb3 hB4
        have HI4 := hide (HI3.out.below hB4)
        clear hB4 HI3
        go_wp2_with fail
        refine (implFeedsAll_any _ _ _ _ (full ls.length) _ HI4.out (by omega)).mono ?_
        rintro e w5 ⟨rfl, hB5⟩
        rw [HN.out]
        have hb5 := next hb4 hB5
        go_wp2_with fail
        go_ret
        exact ⟨rfl, hb5⟩
      | false =>
        have hl0 : 0 ≤ v := by have := of_decide_eq_false hv; omega
        have hF := (least_feeds (g := gs) (m := ls) (by rw [HV.out]; exact hl0)).1
        have hS := (least_said hF).2.2.2
        have HC : Hid (∀ k : Nat, k < 6 → hasB v k = true → feedsL gs ls (v - 2 ^ k) = false) := hide (fun k hk hb => by
          have := least_cut (g := gs) (m := ls) (by rw [HV.out]; exact hl0) hk (by rw [HV.out]; exact hb)
          rwa [HV.out] at this)
        rw [HV.out] at hF hS
        have HF := hide hF
        clear hM hF
        go_wp2_with fail
        refine (specMenuValid_any _ _ _ _ _ HI3.out (by omega)).mono ?_
        rintro e w4 ⟨rfl, hB4⟩
        rw [HM.out]
        have hb4 := next hb3 hB4
        have HI4 := hide (HI3.out.below hB4)
        clear hB4 HI3
        have HCF := hide (fun d W hW => implFeedsAll_any gs (some ⟨g, 0, none⟩) c1 ls d W hW (by omega))
        have hz4 := hb4.size
        go_wp2_with fail
        go_loopw [6] (fun iv wr => ∃ j : Nat, j ≤ ls.length ∧ iv = .int .i64 j ∧ Below w4.heap.size w4 wr) (fun iv _ => ls.length - (intOf iv).toNat)
        case atStart => exact ⟨0, Nat.zero_le _, rfl, Below.refl _ _⟩
        case round =>
          obtain ⟨j, hj, rfl, hbj⟩ := hrel
          have HIj := hide (HI4.out.below hbj)
          have hzj := hbj.size
          by_cases hjl : j < ls.length
          · have hd : decide ((j : Int) < ls.length) = true := decide_eq_true (by omega)
            have hj0 : (0 : Int) ≤ j := by omega
            have hq := div_range v j hl0 hS
            have hpj := pow_range j (by omega)
            cases hh : hasB v j with
            | false =>
              have hf : (v / 2 ^ j % 2 == 1) = false := hh
              clear hh
              go_wp2_with fail
              go_roundw
              case rel => exact ⟨j + 1, by omega, by go_num, hbj⟩
              case measure => simp [intOf]; omega
            | true =>
              have hf : (v / 2 ^ j % 2 == 1) = true := hh
              have HCJ := hide (HC.out j (by omega) hh)
              clear hh
              go_wp2_with fail
              refine (HCF.out (v - 2 ^ j) _ HIj.out).mono ?_
              rintro e w5 ⟨rfl, hB5⟩
              rw [HCJ.out]
              have hb5 := next hbj hB5
              clear hB5
              go_wp2_with fail
              go_roundw
              case rel => exact ⟨j + 1, by omega, by go_num, hb5⟩
              case measure => simp [intOf]; omega
          · have hd : decide ((j : Int) < ls.length) = false := decide_eq_false (by omega)
            go_wp2_with fail
            refine (HCF.out v _ HIj.out).mono ?_
            rintro e w5 ⟨rfl, hB5⟩
            rw [HF.out]
            have hb5 := next (next hb4 hbj) hB5
            go_wp2_with fail
            go_ret
            exact ⟨rfl, hb5⟩
end Go.Proofs.YthbainbgimbjeaaDoor
