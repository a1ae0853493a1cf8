/- For all drawn bytes the law of UseBound answers true, and its argument reads as it did.
   Conditions: none. -/
import Derived.Test.YtecmghoklleheaaDoorLawKit
import Derived.Test.YtecmghoklleheaaDoorDrawUB
import Derived.Test.YtecmghoklleheaaDoorTakeMath
namespace Go.Proofs.YtecmghoklleheaaDoor
open Go.RowKit Go.ChangeShapes Go.WideShapes Go.ChangeAt

set_option maxRecDepth 100000 in
set_option maxHeartbeats 4000000 in
theorem lawUseBound_any (A : Option Addr) (c m : Nat) (w : World) (hB : BytesIn w A m) (hc : m ≤ c) (hc2 : c ≤ 9223372036854775807) :
    Calls Tryd.prog 13 #[.slice A m c] w fun e w' => e = .returned (.bool true) ∧ Below w.heap.size w w' := by
  by_cases hlen : (1048576 : Int) < m
  · go_enter Tryd.func13, Tryd.ntmps13
    go_wp2_with fail
    go_ret
    exact ⟨rfl, by go_grown⟩
  · go_enter Tryd.func13, Tryd.ntmps13
    go_wp2_with fail
    refine (drawUseBound_any A c m w hB (by omega) hc hc2).mono ?_
    rintro e w1 ⟨ls, g, c1, xs, h, c2, d, rfl, hS, hT, hl, hx, hd0, hd1, hb1⟩
    have hl' : ls.length ≤ 1048576 := by omega
    have hx' : xs.length ≤ 1048576 := by omega
    have hcap := hT.cap.2.1
    have HI := hide hS.lots
    have HT := hide hT.ints
    obtain ⟨x, HX⟩ : ∃ x, Hid (useBoundL ls xs d = x) := ⟨_, hide rfl⟩
    have hne1 : (x != x) = false := by simp
    clear hS hT
    cases hok : (stockOk ls xs && inR d 0 6) with
    | false =>
      have hv : x = -1 := by
        rw [← HX.out]
        unfold useBoundL
        rw [if_neg (by rw [hok]; decide)]
      subst hv
      clear hok
      go_wp2_with fail
      refine (implUseBound_any _ _ _ _ _ _ _ _ HI.out hl' HT.out hx' hcap).mono ?_
      rintro e w2 ⟨rfl, hB2⟩
      have hb2 := next hb1 hB2
      have HI2 := hide (HI.out.below hB2)
      have HT2 := hide (HT.out.below hB2)
      rw [HX.out]
      clear hB2
      go_wp2_with fail
      refine (specUseBound_any _ _ _ _ _ _ _ _ HI2.out hl' HT2.out hx').mono ?_
      rintro e w3 ⟨rfl, hB3⟩
      have hb3 := next hb2 hB3
      rw [HX.out]
      clear hB3
      go_wp2_with fail
      refine (alive_any _).mono ?_
      rintro e w5 ⟨rfl, hB5⟩
      go_wp2_with fail
      go_ret
      exact ⟨rfl, next hb3 hB5⟩
    | true =>
      have hp : stockOk ls xs = true ∧ inR d 0 6 = true := by simpa using hok
      obtain ⟨z, HZ⟩ : ∃ z, Hid (useMostL ls xs = z) := ⟨_, hide rfl⟩
      obtain ⟨y0, HY0⟩ : ∃ y, Hid (unitsL ls 0 = y) := ⟨_, hide rfl⟩
      obtain ⟨y6, HY6⟩ : ∃ y, Hid (sumW xs = y) := ⟨_, hide rfl⟩
      have hzr := useMostL_range hp.1
      have hle := useMost_le hp.1 hp.2
      rw [HZ.out] at hzr hle
      rw [HX.out] at hle
      have HB0 : Hid (useBoundL ls xs 0 = y0) := hide (by rw [bound_first hp.1, HY0.out])
      have HB6 : Hid (useBoundL ls xs 6 = y6) := hide (by rw [bound_last hp.1, HY6.out])
      have h0 : (y0 == y0) = true := by simp
      have h6 : (y6 == y6) = true := by simp
      obtain ⟨hz0, hz1⟩ := hzr
      have hx0 : 0 ≤ x := by omega
      have hge : decide (x ≥ z) = true := decide_eq_true hle
      have hge2 : decide (z ≤ x) = true := decide_eq_true hle
      clear hok hp
      go_wp2_with fail
      refine (implUseBound_any _ _ _ _ _ _ _ _ HI.out hl' HT.out hx' hcap).mono ?_
      rintro e w2 ⟨rfl, hB2⟩
      have hb2 := next hb1 hB2
      have HI2 := hide (HI.out.below hB2)
      have HT2 := hide (HT.out.below hB2)
      rw [HX.out]
      clear hB2
      go_wp2_with fail
      refine (specUseBound_any _ _ _ _ _ _ _ _ HI2.out hl' HT2.out hx').mono ?_
      rintro e w3 ⟨rfl, hB3⟩
      have hb3 := next hb2 hB3
      have HI3 := hide (HI2.out.below hB3)
      have HT3 := hide (HT2.out.below hB3)
      rw [HX.out]
      clear hB3
      go_wp2_with fail
      refine (implUseBound_any _ _ _ _ _ _ _ _ HI3.out hl' HT3.out hx' hcap).mono ?_
      rintro e w4 ⟨rfl, hB4⟩
      have hb4 := next hb3 hB4
      have HI4 := hide (HI3.out.below hB4)
      have HT4 := hide (HT3.out.below hB4)
      rw [HB0.out]
      clear hB4
      go_wp2_with fail
      refine (implLotsAt_any _ _ _ _ _ HI4.out hl').mono ?_
      rintro e w5 ⟨rfl, hB5⟩
      have hb5 := next hb4 hB5
      have HI5 := hide (HI4.out.below hB5)
      have HT5 := hide (HT4.out.below hB5)
      rw [HY0.out]
      clear hB5
      go_wp2_with fail
      refine (implUseBound_any _ _ _ _ _ _ _ _ HI5.out hl' HT5.out hx' hcap).mono ?_
      rintro e w6 ⟨rfl, hB6⟩
      have hb6 := next hb5 hB6
      have HI6 := hide (HI5.out.below hB6)
      have HT6 := hide (HT5.out.below hB6)
      rw [HB6.out]
      clear hB6
      go_wp2_with fail
      refine (lawSum_any _ _ _ _ HT6.out hx').mono ?_
      rintro e w7 ⟨rfl, rfl⟩
      rw [HY6.out]
      go_wp2_with fail
      refine (implUseMost_any _ _ _ _ _ _ _ HI6.out hl' HT6.out hx').mono ?_
      rintro e w8 ⟨rfl, hB8⟩
      have hb8 := next hb6 hB8
      rw [HZ.out]
      clear hB8
      go_wp2_with fail
      go_ret
      exact ⟨rfl, hb8⟩
end Go.Proofs.YtecmghoklleheaaDoor
