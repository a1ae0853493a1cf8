/- For all drawn bytes the law of SettleLeast answers true, and its argument reads as it did.
   Conditions: none. -/
import Derived.Test.YtgagfaajilbmmaaDoorLawKit
import Derived.Test.YtgagfaajilbmmaaDoorDrawOwed
import Derived.Test.YtgagfaajilbmmaaDoorGrpImpl
import Derived.Test.YtgagfaajilbmmaaDoorGrpSpec
namespace Go.Proofs.YtgagfaajilbmmaaDoor
open Go.RowKit Go.ChangeShapes Go.WideShapes Go.ChangeAt Go.Deep

set_option maxHeartbeats 1000000 in
theorem drawSettleLeast_any (A : Option Addr) (c m : Nat) (w : World) (hB : BytesIn w A m) (hm : m ≤ 9223372036854775807) (hc : m ≤ c) (hc2 : c ≤ 9223372036854775807) :
    Calls Tryd.prog 42 #[.slice A m c] w (DrawnIG 100000 8 w) := by
  go_enter Tryd.func42, Tryd.ntmps42
  go_wp2_with fail
  refine (open_any A c m w hB hm hc hc2).mono ?_
  rintro e w1 ⟨rfl, hR1, hb1⟩
  have hz1 := hb1.size
  go_wp2_with fail
  refine (l20Owed_any w.heap.size 0 9 _ hR1 (by omega) (by omega)).mono ?_
  rintro e w2 ⟨ls, g, c2, rfl, hS2, hl, hR2, hg2, hX⟩
  have hb2 : Below w.heap.size w w2 := hb1.grown hg2 hz1 (fun j hj => by injection hj with hj; omega)
  have HI := hide hS2.ints
  have HX := hide hX
  have hgl := (IntSl.capI hS2).2.2.2.2
  clear hS2 hg2 hX
  go_wp2_with fail
  refine bodyPost_ret (results_tmp rfl _ _ _) rfl ⟨ls, g, c2, rfl, HI.out, hl, hgl, HX, hb2⟩

set_option maxRecDepth 100000 in
set_option maxHeartbeats 4000000 in
theorem lawSettleLeast_any (A : Option Addr) (c m : Nat) (w : World) (hB : BytesIn w A m) (hc : m ≤ c) (hc2 : c ≤ 9223372036854775807) :
    Calls Tryd.prog 10 #[.slice A m c] w fun e w' => e = .returned (.bool true) ∧ Below w.heap.size w w' := by
  by_cases hlen : (1048576 : Int) < m
  · go_enter Tryd.func10, Tryd.ntmps10
    go_wp2_with fail
    go_ret
    exact ⟨rfl, by go_grown⟩
  · go_enter Tryd.func10, Tryd.ntmps10
    go_wp2_with fail
    refine (drawSettleLeast_any A c m w hB (by omega) hc hc2).mono ?_
    rintro e w1 ⟨xs, g, c1, rfl, hI, hl, -, -, hb1⟩
    have hl' : xs.length ≤ 1048576 := by omega
    have HI1 := hide hI
    clear hI
    obtain ⟨q, HQ⟩ : ∃ q, Hid (settleLeastL xs = q) := ⟨_, hide rfl⟩
    have hqq : (q != q) = false := by simp
    go_wp2_with fail
    refine (implSettleLeast_any _ _ _ _ HI1.out hl').mono ?_
    rintro e w2 ⟨rfl, hB2⟩
    rw [HQ.out]
    have hb2 := next hb1 hB2
    have HI2 := hide (HI1.out.below hB2)
    clear hB2
    go_wp2_with fail
    refine (specSettleLeast_any _ _ _ _ HI2.out hl').mono ?_
    rintro e w3 ⟨rfl, hB3⟩
    rw [HQ.out]
    have hb3 := next hb2 hB3
    have HI3 := hide (HI2.out.below hB3)
    clear hB3 HI1 HI2
    cases hok : owedOk xs with
    | false =>
      have hq : q = -1 := by rw [← HQ.out]; unfold settleLeastL; rw [hok]; rfl
      subst hq
      clear hok
      go_wp2_with fail
      refine (alive_any _).mono ?_
      rintro e w6 ⟨rfl, hB6⟩
      go_wp2_with fail
      go_ret
      exact ⟨rfl, next hb3 hB6⟩
    | true =>
      obtain ⟨hs1, hs2, hs3⟩ := settleBest_said hok
      obtain ⟨hf1, hf2, hf3, hf4⟩ := settle_fast hok
      have h7 := owedOk_len hok
      have hq7 : settleLeastL xs ≤ 7 := by
        unfold settleLeastL
        rw [if_pos hok]
        have := gMost_nonneg hok
        have := nz_len xs
        omega
      have hTl := settleBestL_len xs
      have hFl := settleFastL_len xs
      rw [HQ.out] at hs1 hf1 hf2 hf3 hf4 hq7
      obtain ⟨T, HT⟩ : ∃ T, Hid (settleBestL xs = T) := ⟨_, hide rfl⟩
      obtain ⟨F, HF⟩ : ∃ F, Hid (settleFastL xs = F) := ⟨_, hide rfl⟩
      rw [HT.out] at hs1 hs2 hTl
      rw [HF.out] at hf2 hf3 hf4 hFl
      have HPO := hide hs2
      have hqb : ((T.length : Int) == q) = true := by simpa using hs1
      have HF3 := hide hf3
      have HF4 := hide hf4
      clear hs1 hs2 hs3 hf3 hf4 hok
      go_wp2_with fail
      refine (implSettleBest_any _ _ _ _ HI3.out hl').mono ?_
      rintro e w4 ⟨v, rfl, hv, hB4⟩
      rw [HT.out] at hv
      obtain ⟨A4, k4, rfl, hT4, -⟩ := hv.form
      have hb4 := next hb3 hB4
      have HI4 := hide (HI3.out.below hB4)
      have HT4 := hide hT4
      clear hB4 hv hT4
      go_wp2_with fail
      refine (implSettleFast_any ⟨g, 0, none⟩ _ _ _ HI4.out hl').mono ?_
      rintro e w5 ⟨v, rfl, hv, hB5⟩
      rw [HF.out] at hv
      obtain ⟨A5, k5, rfl, hT5, -⟩ := hv.form
      have hb5 := next hb4 hB5
      have HI5 := hide (HI4.out.below hB5)
      have HT5 := hide (HT4.out.below hB5)
      clear hB5 hv hT5
      go_wp2_with fail
      refine (implPaysOk_any ⟨g, 0, none⟩ _ _ _ _ _ _ HI5.out hl' HT5.out hTl).mono ?_
      rintro e w7 ⟨rfl, hB7⟩
      rw [HPO.out]
      have hb7 := next hb5 hB7
      clear hB7
      by_cases hq0 : q = 0
      · have hF0 : F = [] := HF3.out hq0
        subst hF0 hq0
        go_wp2_with fail
        go_ret
        exact ⟨rfl, hb7⟩
      · have hlt : (F.length : Int) < 2 * q := HF4.out hq0
        have hqz : (q == 0) = false := by simpa using hq0
        clear hq0
        go_wp2_with fail
        go_ret
        exact ⟨rfl, hb7⟩
end Go.Proofs.YtgagfaajilbmmaaDoor
