/- For all drawn bytes the law of PaysOk answers true, and its argument reads as it did.
   Conditions: none. -/
import Derived.Test.YtgagfaajilbmmaaDoorLawKit
import Derived.Test.YtgagfaajilbmmaaDoorDrawPays
import Derived.Test.YtgagfaajilbmmaaDoorGrpImpl
namespace Go.Proofs.YtgagfaajilbmmaaDoor
open Go.RowKit Go.ChangeShapes Go.WideShapes Go.ChangeAt Go.Deep

set_option maxRecDepth 100000 in
set_option maxHeartbeats 4000000 in
theorem lawPaysOk_any (A : Option Addr) (c m : Nat) (w : World) (hB : BytesIn w A m) (hc : m ≤ c) (hc2 : c ≤ 9223372036854775807) :
    Calls Tryd.prog 8 #[.slice A m c] w fun e w' => e = .returned (.bool true) ∧ Below w.heap.size w w' := by
  by_cases hlen : (1048576 : Int) < m
  · go_enter Tryd.func8, Tryd.ntmps8
    go_wp2_with fail
    go_ret
    exact ⟨rfl, by go_grown⟩
  · go_enter Tryd.func8, Tryd.ntmps8
    go_wp2_with fail
    refine (drawPaysOk_any A c m w hB (by omega) hc hc2).mono ?_
    rintro e w1 ⟨xs, g, c1, ps, A1, d1, rfl, hI, hP, hl, hpl, hb1⟩
    have hl' : xs.length ≤ 1048576 := by omega
    have HI1 := hide hI
    have HP1 := hide hP
    obtain ⟨β, HB⟩ : ∃ β, Hid (paysOkL xs ps = β) := ⟨_, hide rfl⟩
    obtain ⟨q, HQ⟩ : ∃ q, Hid (settleLeastL xs = q) := ⟨_, hide rfl⟩
    clear hI hP
    have hββ : (β != β) = false := by simp
    go_wp2_with fail
    refine (implPaysOk_any ⟨g, 0, none⟩ _ _ _ _ _ _ HI1.out hl' HP1.out hpl).mono ?_
    rintro e w2 ⟨rfl, hB2⟩
    rw [HB.out]
    have hb2 := next hb1 hB2
    have HI2 := hide (HI1.out.below hB2)
    have HP2 := hide (HP1.out.below hB2)
    clear hB2
    go_wp2_with fail
    refine (specPaysOk_any ⟨g, 0, none⟩ _ _ _ _ _ _ HI2.out hl' HP2.out hpl).mono ?_
    rintro e w3 ⟨rfl, hB3⟩
    rw [HB.out]
    have hb3 := next hb2 hB3
    have HI3 := hide (HI2.out.below hB3)
    have HP3 := hide (HP2.out.below hB3)
    clear hB3 HI1 HI2 HP1 HP2
    go_wp2_with fail
    refine (implSettleLeast_any _ _ _ _ HI3.out hl').mono ?_
    rintro e w4 ⟨rfl, hB4⟩
    rw [HQ.out]
    have hb4 := next hb3 hB4
    clear hB4
    cases β with
    | false =>
      go_wp2_with fail
      refine (alive_any _).mono ?_
      rintro e w6 ⟨rfl, hB6⟩
      go_wp2_with fail
      go_ret
      exact ⟨rfl, next hb4 hB6⟩
    | true =>
      have hle := pays_least HB.out hpl
      rw [HQ.out] at hle
      have hq0 : decide (0 ≤ q) = true := decide_eq_true hle.1
      have hq1 : decide (q ≤ (ps.length : Int)) = true := decide_eq_true hle.2
      clear hle
      go_wp2_with fail
      refine (alive_any _).mono ?_
      rintro e w6 ⟨rfl, hB6⟩
      go_wp2_with fail
      go_ret
      exact ⟨rfl, next hb4 hB6⟩
end Go.Proofs.YtgagfaajilbmmaaDoor
