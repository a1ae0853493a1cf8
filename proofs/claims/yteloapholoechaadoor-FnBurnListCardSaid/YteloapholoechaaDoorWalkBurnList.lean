/- For all drawn bytes the law of BurnList answers true, and its argument reads as it did.
   Conditions: none. -/
import Derived.Test.YteloapholoechaaDoorWalkBurnLeast
import Derived.Test.YteloapholoechaaDoorLists
namespace Go.Proofs.YteloapholoechaaDoor
open Go.RowKit Go.ChangeShapes Go.WideShapes Go.ChangeAt

set_option maxRecDepth 100000 in
set_option maxHeartbeats 4000000 in
theorem lawBurnList_any (A : Option Addr) (c m : Nat) (w : World) (hB : BytesIn w A m) (hc : m ≤ c) (hc2 : c ≤ 9223372036854775807) :
    Calls Tryd.prog 7 #[.slice A m c] w fun e w' => e = .returned (.bool true) ∧ Below w.heap.size w w' := by
  by_cases hlen : (1048576 : Int) < m
  · go_enter Tryd.func7, Tryd.ntmps7
    go_wp2_with fail
    go_ret
    exact ⟨rfl, by go_grown⟩
  · go_enter Tryd.func7, Tryd.ntmps7
    go_wp2_with fail
    refine (drawBurnList_any A c m w hB (by omega) hc hc2).mono ?_
    rintro e w1 ⟨xs, s, g, c1, rfl, hI, hl, hs0, hs1, hcc, hb1⟩
    have hl' : xs.length ≤ 1048576 := by omega
    have HI := hide hI
    clear hI
    obtain ⟨T, HT⟩ : ∃ T, Hid (burnListL xs s = T) := ⟨_, hide rfl⟩
    have hTl : T.length ≤ 1048576 := by
      rw [← HT.out]
      exact Nat.le_trans (burnListL_len _ _) hl'
    go_wp2_with fail
    refine (implBurnList_any _ _ _ _ _ HI.out hl').mono ?_
    rintro e w2 ⟨v, rfl, hv, hB2⟩
    rw [HT.out] at hv
    obtain ⟨A2, k2, rfl, hI2, -⟩ := hv.form
    have hb2 := next hb1 hB2
    have HI2 := hide (HI.out.below hB2)
    have HT2 := hide hI2
    clear hB2 hv hI2
    go_wp2_with fail
    refine (specBurnList_any _ _ _ _ _ HI2.out hl').mono ?_
    rintro e w3 ⟨v, rfl, hv, hB3⟩
    rw [HT.out] at hv
    obtain ⟨A3, k3, rfl, hI3, -⟩ := hv.form
    have hb3 := next hb2 hB3
    have HI3 := hide (HI2.out.below hB3)
    have HT3 := hide (HT2.out.below hB3)
    have HU3 := hide hI3
    clear hB3 hv hI3
    go_wp2_with fail
    refine (sameInts_same _ _ _ _ _ _ HT3.out HU3.out hTl).mono ?_
    rintro e w4 ⟨rfl, hB4⟩
    have hb4 := next hb3 hB4
    have HI4 := hide (HI3.out.below hB4)
    have HT4 := hide (HT3.out.below hB4)
    clear hB4
    go_wp2_with fail
    refine (specSpansValid_any _ _ _ _ HI4.out hl').mono ?_
    rintro e w5 ⟨rfl, hB5⟩
    have hb5 := next hb4 hB5
    have HI5 := hide (HI4.out.below hB5)
    have HT5 := hide (HT4.out.below hB5)
    clear hB5 HI HI2 HI3 HI4 HT2 HT3 HT4 HU3
    cases hok : burnFit xs s with
    | false =>
      have hT0 : T = [] := by rw [← HT.out]; unfold burnListL; rw [hok]; rfl
      subst hT0
      cases hsp : spansOk xs with
      | false =>
        go_wp2_with fail
        refine (alive_any _).mono ?_
        rintro e w6 ⟨rfl, hB6⟩
        go_wp2_with fail
        go_ret
        exact ⟨rfl, next hb5 hB6⟩
      | true =>
        have hs : s < 1 ∨ 3 < s := by
          unfold burnFit at hok
          rw [hsp, Bool.true_and] at hok
          have : ¬ (1 ≤ s ∧ s ≤ 3) := fun h => by rw [inR_iff.2 h] at hok; cases hok
          omega
        clear hok
        rcases hs with hs | hs
        · go_wp2_with fail
          refine (alive_any _).mono ?_
          rintro e w6 ⟨rfl, hB6⟩
          go_wp2_with fail
          go_ret
          exact ⟨rfl, next hb5 hB6⟩
        · have hs2 : ¬ s < 1 := by omega
          go_wp2_with fail
          refine (alive_any _).mono ?_
          rintro e w6 ⟨rfl, hB6⟩
          go_wp2_with fail
          go_ret
          exact ⟨rfl, next hb5 hB6⟩
    | true =>
      obtain ⟨hbo, hbe⟩ := burnList_said hok
      obtain ⟨l0, l1⟩ := burnLeast_nn hok
      rw [HT.out] at hbo hbe
      obtain ⟨e0, e1⟩ := burnEnd_nn hbo
      obtain ⟨hsp, n, rfl, hn1, hn3⟩ := burnFit_parts hok
      rw [hsp]
      obtain ⟨L, hL⟩ : ∃ L, burnLeastL xs n = L := ⟨_, rfl⟩
      obtain ⟨E, hE⟩ : ∃ E, burnEndL xs n T = E := ⟨_, rfl⟩
      rw [hL] at hbe l0 l1
      rw [hE] at hbe e0 e1
      obtain ⟨P, hP⟩ : ∃ P, E * (n : Int) = P := ⟨_, rfl⟩
      obtain ⟨Q, hQ⟩ : ∃ Q, L * (2 * (n : Int) - 1) = Q := ⟨_, rfl⟩
      have hP0 : 0 ≤ P ∧ P ≤ 540 := by rcases (by omega : n = 1 ∨ n = 2 ∨ n = 3) with rfl | rfl | rfl <;> omega
      have hQ0 : 0 ≤ Q ∧ Q ≤ 900 := by rcases (by omega : n = 1 ∨ n = 2 ∨ n = 3) with rfl | rfl | rfl <;> omega
      rw [hP, hQ] at hbe
      have HBO := hide hbo
      have HL := hide hL
      have HE := hide hE
      have HP := hide hP
      have HQ := hide hQ
      clear hok hbo hL hE hP hQ hsp
      go_wp2_with fail
      refine (implBurnOk_any _ _ _ _ _ _ _ _ HI5.out hl' HT5.out hTl).mono ?_
      rintro e w6 ⟨rfl, hB6⟩
      have hb6 := next hb5 hB6
      have HI6 := hide (HI5.out.below hB6)
      have HT6 := hide (HT5.out.below hB6)
      rw [HBO.out]
      clear hB6
      go_wp2_with fail
      refine (implBurnEnd_any _ _ _ _ _ _ _ _ HI6.out hl' HT6.out hTl).mono ?_
      rintro e w7 ⟨rfl, hB7⟩
      have hb7 := next hb6 hB7
      have HI7 := hide (HI6.out.below hB7)
      rw [HE.out]
      clear hB7
      have hpm := HP.out
      go_wp2_with fail
      refine (implBurnLeast_any _ _ _ _ _ HI7.out hl' hcc).mono ?_
      rintro e w8 ⟨rfl, hB8⟩
      have hb8 := next hb7 hB8
      rw [HL.out]
      clear hB8 hpm
      have hqm := HQ.out
      go_wp2_with fail
      go_ret
      exact ⟨rfl, hb8⟩
end Go.Proofs.YteloapholoechaaDoor
