/- For all drawn bytes the law of FlowEnds answers true, and its argument reads as it did.
   Conditions: none. -/
import Derived.Test.YthakbacpcpdelaaDoorLawKit
import Derived.Test.YthakbacpcpdelaaDoorDrawFlow
import Derived.Test.YthakbacpcpdelaaDoorFlowMath
import Derived.Test.YthakbacpcpdelaaDoorOrderMath
import Derived.Test.YthakbacpcpdelaaDoorLists
namespace Go.Proofs.YthakbacpcpdelaaDoor
open Go.RowKit Go.ChangeShapes Go.WideShapes Go.ChangeAt

set_option maxRecDepth 100000 in
set_option maxHeartbeats 4000000 in
theorem lawFlowEnds_any (A : Option Addr) (c m : Nat) (w : World) (hB : BytesIn w A m) (hc : m ≤ c) (hc2 : c ≤ 9223372036854775807) :
    Calls Tryd.prog 3 #[.slice A m c] w fun e w' => e = .returned (.bool true) ∧ Below w.heap.size w w' := by
  by_cases hlen : (1048576 : Int) < m
  · go_enter Tryd.func3, Tryd.ntmps3
    go_wp2_with fail
    go_ret
    exact ⟨rfl, by go_grown⟩
  · go_enter Tryd.func3, Tryd.ntmps3
    go_wp2_with fail
    refine (drawFlowEnds_any A c m w hB (by omega) hc hc2).mono ?_
    rintro e w1 ⟨xs, os, g, c1, go, c2, rfl, hI, hJ, hl, hol, hoc, hb1⟩
    have hl' : xs.length ≤ 1048576 := by omega
    have ho' : os.length ≤ 1048576 := by omega
    have HI1 := hide hI
    have HJ1 := hide hJ
    obtain ⟨T, HT⟩ : ∃ T, Hid (flowEndsL xs os = T) := ⟨_, hide rfl⟩
    have hTl : T.length ≤ 1048576 := by
      rw [← HT.out]
      exact Nat.le_trans (flowEndsL_len _ _) hl'
    clear hI hJ
    go_wp2_with fail
    refine (implFlowEnds_any _ _ _ _ _ _ _ HI1.out hl' HJ1.out ho').mono ?_
    rintro e w2 ⟨v, rfl, hv, hB2⟩
    rw [HT.out] at hv
    obtain ⟨A2, k2, rfl, hI2, -⟩ := hv.form
    have hb2 := next hb1 hB2
    have HI2 := hide (HI1.out.below hB2)
    have HJ2 := hide (HJ1.out.below hB2)
    have HT2 := hide hI2
    clear hB2 hv hI2
    go_wp2_with fail
    refine (specFlowEnds_any _ _ _ _ _ _ _ HI2.out hl' HJ2.out ho' hoc).mono ?_
    rintro e w3 ⟨v, rfl, hv, hB3⟩
    rw [HT.out] at hv
    obtain ⟨A3, k3, rfl, hI3, -⟩ := hv.form
    have hb3 := next hb2 hB3
    have HI3 := hide (HI2.out.below hB3)
    have HJ3 := hide (HJ2.out.below hB3)
    have HT3 := hide (HT2.out.below hB3)
    have HU3 := hide hI3
    clear hB3 hv hI3
    go_wp2_with fail
    refine (sameInts_same _ _ _ _ _ _ HT3.out HU3.out hTl).mono ?_
    rintro e w4 ⟨rfl, hB4⟩
    have hb4 := next hb3 hB4
    have HI4 := hide (HI3.out.below hB4)
    have HJ4 := hide (HJ3.out.below hB4)
    have HT4 := hide (HT3.out.below hB4)
    clear hB4 HI1 HI2 HI3 HJ1 HJ2 HJ3 HT2 HT3 HU3
    by_cases h0 : T = []
    · subst h0
      go_wp2_with fail
      refine (alive_any _).mono ?_
      rintro e w6 ⟨rfl, hB6⟩
      go_wp2_with fail
      go_ret
      exact ⟨rfl, next hb4 hB6⟩
    · have hfit : flowFit xs os = true := by
        cases hf : flowFit xs os with
        | true => rfl
        | false =>
          refine absurd ?_ h0
          rw [← HT.out]
          unfold flowEndsL
          rw [hf]
          rfl
      have HE : Hid (flowGo xs 0 0 (os.drop 0) (tab xs.length (fun _ => 0)) = T) := hide (by
        rw [← HT.out]
        unfold flowEndsL
        rw [if_pos hfit]
        rfl)
      have hTx : T.length = xs.length := by rw [← HE.out, flowGo_len, tab_len]
      obtain ⟨hdo, hoo⟩ : dishesOk xs = true ∧ orderOkL os (xs.length : Int) = true := by
        unfold flowFit at hfit
        simpa only [Bool.and_eq_true] using hfit
      obtain ⟨hoe, hor, hod⟩ := orderOkL_iff.1 hoo
      have hosl : os.length = xs.length := by omega
      have hx6 := dishesOk_len hdo
      have HDO := hide hdo
      have HOR := hide hor
      have HOD := hide hod
      have hTn : ¬ ((T.length : Int) = 0) := by
        intro h
        exact h0 (List.eq_nil_of_length_eq_zero (by omega))
      have hTd : ((T.length : Int) == 0) = false := by simpa using hTn
      have hTe : ((T.length : Int) == (xs.length : Int)) = true := by simp [hTx]
      have hos1 : os.length ≤ xs.length := by omega
      have hos2 : xs.length ≤ os.length := by omega
      have hT1 : xs.length ≤ T.length := by omega
      clear hfit hdo hoo hoe hor hod h0 hTx hosl
      go_wp2_with fail
      go_loopw [6, 7, 8] (fun fv sv iv wr => ∃ (k : Nat) (f s : Int) (e : List Int), k ≤ xs.length ∧ fv = .int .i64 f ∧ sv = .int .i64 s ∧ iv = .int .i64 k ∧ 0 ≤ f ∧ f ≤ 30 * k ∧ 0 ≤ s ∧ s ≤ 60 * k ∧ Hid (e.length = xs.length ∧ flowGo xs f s (os.drop k) e = T) ∧ Below w4.heap.size w4 wr) (fun _ _ iv _ => xs.length - (intOf iv).toNat)
      case atStart => exact ⟨0, 0, 0, _, Nat.zero_le _, rfl, rfl, rfl, by omega, by omega, by omega, by omega, hide ⟨tab_len _ _, HE.out⟩, Below.refl _ _⟩
      case round =>
        clear HE
        obtain ⟨k, f, s, e, hk, rfl, rfl, rfl, hf0, hf1, hs0, hs1, HE, hd⟩ := hrel
        have hb := next hb4 hd
        have hsz := hd.size
        by_cases hlt : k < xs.length
        · have hlo : k < os.length := by omega
          have hoe := List.getElem?_eq_getElem hlo
          have hor := HOR.out _ (List.getElem_mem hlo)
          obtain ⟨b1, off1, hDD, hbl1, hc1⟩ := (HJ4.out.below hd) k os[k] hoe
          injection hDD with hDD
          injection hDD with e1 e2
          subst e1 e2
          generalize os[k] = o at *
          obtain ⟨q, rfl⟩ : ∃ q : Nat, o = q := ⟨o.toNat, by omega⟩
          have hqn : q < xs.length := by omega
          have hqe := List.getElem?_eq_getElem hqn
          have hx := dishesOk_at HDO.out (List.getElem_mem hqn)
          obtain ⟨b2, off2, hDD, hbl2, hd1, hd2⟩ := (HI4.out.below hd) q xs[q] hqe
          injection hDD with hDD
          injection hDD with e1 e2
          subst e1 e2
          generalize xs[q] = x at *
          obtain ⟨hx0, hx1, hx2, hx3⟩ := hx
          obtain ⟨s', e', hs', hTq, he', hE'⟩ := flow_at HOD.out (fun o ho => (HOR.out o ho).1) hoe hqe HE.out.1 HE.out.2
          have HE2 := hide (And.intro he' hE')
          obtain ⟨b3, off3, rfl, hbl3, hc3⟩ := (HT4.out.below hd) q s' hTq
          rw [Nat.zero_add] at hc1 hd1 hd2
          obtain ⟨f', hf'⟩ : ∃ f', f + x.prep = f' := ⟨_, rfl⟩
          have hfb : 0 ≤ f' ∧ f' ≤ 30 * (k : Int) + 30 := by omega
          have hs2 : f' + x.cook ≤ s' ∧ s + x.cook ≤ s' ∧ s' ≤ 60 * (k : Int) + 60 ∧ 0 ≤ s' := by
            rw [hs', hf']
            split <;> omega
          have hw1 : IntKind.i64.wrap (f + x.prep) = f' := (IntWalk.i64_in _ (by omega)).trans hf'
          have hw2 : IntKind.i64.wrap (f' + x.cook) = f' + x.cook := IntWalk.i64_in _ (by omega)
          have hw3 : IntKind.i64.wrap (s + x.cook) = s + x.cook := IntWalk.i64_in _ (by omega)
          have hq1 : decide (s' < f' + x.cook) = false := decide_eq_false (by omega)
          have hq2 : decide (s' < s + x.cook) = false := decide_eq_false (by omega)
          have hy0 : (0 : Int) ≤ k := by omega
          have hy1 : (k : Int) < os.length := by omega
          have hy2 : (0 : Int) ≤ q := by omega
          have hy3 : (q : Int) < xs.length := by omega
          have hy4 : (q : Int) < T.length := by omega
          rw [hf'] at HE2
          clear hoe hqe hTq he' hE' HE hs'
          go_wp2_with fail
          go_quiet (fail)
          go_wp2_with fail
          go_roundw
          case rel => exact ⟨k + 1, f', s', e', hlt, by go_num, by go_num, by go_num, hfb.1, by omega, by omega, by omega, HE2, below_drewN (hd.alloc hsz _) _⟩
          case measure => simp [intOf]; omega
        · have hy1 : ¬ (k : Int) < os.length := by omega
          go_wp2_with fail
          go_ret
          exact ⟨rfl, hb⟩
end Go.Proofs.YthakbacpcpdelaaDoor
