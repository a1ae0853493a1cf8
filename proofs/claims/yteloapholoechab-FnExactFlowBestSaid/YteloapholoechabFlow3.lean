/- FlowEnd: contracts of the program and of the reference model.
   Conditions: lists have at most 1048576 elements. -/
import Derived.Test.YteloapholoechabFlow2
namespace Go.Proofs.Yteloapholoechab
open Go.RowKit Go.ChangeShapes Go.WideShapes Go.ChangeAt Go.Deep

set_option maxHeartbeats 1000000 in
theorem implFlowEnd_any (A B : Option Addr) (c d : Nat) (l : List Dish) (ord : List Int) (w : World) (hA : DishesAt w A l) (hl : l.length ≤ 1048576) (hB : IntsAt w B ord) (hm : ord.length ≤ 1048576) :
    Calls Try.prog 38 #[.slice A l.length c, .slice B ord.length d] w fun e w' => e = .returned (.int .i64 (flowEndL l ord)) ∧ Below w.heap.size w w' := by
  cases hI : flowFit l ord with
  | false =>
    have HI := hide hI
    have H3 : Hid (flowEndL l ord = -1) := hide (by unfold flowEndL; rw [hI]; rfl)
    clear hI
    go_enter Try.func38, Try.ntmps38
    go_wp2_with fail
    refine (flowFits_any _ _ _ _ _ _ _ hA hl hB hm).mono ?_
    rintro e w1 ⟨rfl, hB1⟩
    rw [HI.out]
    go_wp2_with fail
    go_ret
    exact ⟨by rw [H3.out]; rfl, hB1⟩
  | true =>
    have HI := hide hI
    have H3 : Hid (flowEndL l ord = maxFrom 0 (flowEndsL l ord)) := hide (by unfold flowEndL; rw [hI]; rfl)
    have HQL := hide (flowEndsL_len l ord)
    obtain ⟨Q, hQ⟩ : ∃ Q, flowEndsL l ord = Q := ⟨_, rfl⟩
    have HQ := hide hQ
    rw [hQ] at H3 HQL
    clear hI hQ
    go_enter Try.func38, Try.ntmps38
    go_wp2_with fail
    refine (flowFits_any _ _ _ _ _ _ _ hA hl hB hm).mono ?_
    rintro e w1 ⟨rfl, hB1⟩
    rw [HI.out]
    go_wp2_with fail
    refine (implFlowEnds_any _ _ _ _ _ _ _ (hA.below hB1) hl (hB.below hB1) hm).mono ?_
    rintro e w2 ⟨v, rfl, hS, hB2⟩
    rw [HQ.out] at hS
    obtain ⟨AQ, cq, rfl, hI2, -⟩ := hS.form
    have hb2 := next hB1 hB2
    go_wp2_with fail
    refine (greatest_any _ _ _ _ hI2 (Nat.le_trans HQL.out hl)).mono ?_
    rintro e w3 ⟨rfl, rfl⟩
    go_wp2_with fail
    go_ret
    exact ⟨by rw [H3.out]; rfl, hb2⟩

set_option maxHeartbeats 1000000 in
theorem specFlowEnd_any (A B : Option Addr) (c d : Nat) (l : List Dish) (ord : List Int) (w : World) (hA : DishesAt w A l) (hl : l.length ≤ 1048576) (hB : IntsAt w B ord) (hm : ord.length ≤ 1048576) (hc : ord.length ≤ d) :
    Calls Try.prog 37 #[.slice A l.length c, .slice B ord.length d] w fun e w' => e = .returned (.int .i64 (flowEndL l ord)) ∧ Below w.heap.size w w' := by
  cases hD : dishesOk l with
  | false =>
    have HD := hide hD
    have H3 : Hid (flowEndL l ord = -1) := hide (by unfold flowEndL flowFit; rw [hD]; rfl)
    clear hD
    go_enter Try.func37, Try.ntmps37
    go_wp2_with fail
    refine (specDishesValid_any _ _ _ _ hA hl).mono ?_
    rintro e w1 ⟨rfl, hB1⟩
    rw [HD.out]
    go_wp2_with fail
    go_ret
    exact ⟨by rw [H3.out]; rfl, hB1⟩
  | true =>
    have HD := hide hD
    cases hO : orderOkL ord (l.length : Int) with
    | false =>
      have HO := hide hO
      have H3 : Hid (flowEndL l ord = -1) := hide (by unfold flowEndL flowFit; rw [hO]; simp)
      clear hD hO
      go_enter Try.func37, Try.ntmps37
      go_wp2_with fail
      refine (specDishesValid_any _ _ _ _ hA hl).mono ?_
      rintro e w1 ⟨rfl, hB1⟩
      rw [HD.out]
      go_wp2_with fail
      refine (specOrderOk_any _ _ _ _ _ (hB.below hB1) hm hc).mono ?_
      rintro e w2 ⟨rfl, hB2⟩
      have hb2 := next hB1 hB2
      rw [HO.out]
      go_wp2_with fail
      go_ret
      exact ⟨by rw [H3.out]; rfl, hb2⟩
    | true =>
      have HO := hide hO
      have H3 : Hid (flowEndL l ord = maxFrom 0 (flowEndsL l ord)) := hide (by unfold flowEndL flowFit; rw [hD, hO]; rfl)
      have HQL := hide (flowEndsL_len l ord)
      obtain ⟨Q, hQ⟩ : ∃ Q, flowEndsL l ord = Q := ⟨_, rfl⟩
      have HQ := hide hQ
      rw [hQ] at H3 HQL
      clear hD hO hQ
      go_enter Try.func37, Try.ntmps37
      go_wp2_with fail
      refine (specDishesValid_any _ _ _ _ hA hl).mono ?_
      rintro e w1 ⟨rfl, hB1⟩
      rw [HD.out]
      go_wp2_with fail
      refine (specOrderOk_any _ _ _ _ _ (hB.below hB1) hm hc).mono ?_
      rintro e w2 ⟨rfl, hB2⟩
      have hb2 := next hB1 hB2
      rw [HO.out]
      go_wp2_with fail
      refine (specFlowEnds_any _ _ _ _ _ _ _ (hA.below hb2) hl (hB.below hb2) hm hc).mono ?_
      rintro e w3 ⟨v, rfl, hS, hB3⟩
      rw [HQ.out] at hS
      obtain ⟨AQ, cq, rfl, hI3, -⟩ := hS.form
      have hb3 := next hb2 hB3
      have hq2 := Nat.le_trans HQL.out hl
      go_wp2_with fail
      go_loopw [5, 7] (fun ev i wr => ∃ (k : Nat) (e : Int), k ≤ Q.length ∧ i = .int .i64 k ∧ ev = .int .i64 e ∧ Hid (maxFrom 0 Q = maxFrom e (Q.drop k)) ∧ w3 = wr) (fun _ i _ => Q.length - (intOf i).toNat)
      case atStart => exact ⟨0, 0, Nat.zero_le _, rfl, rfl, hide rfl, rfl⟩
      case round =>
        obtain ⟨k, e, hk, rfl, rfl, HG, rfl⟩ := hrel
        by_cases hlt : k < Q.length
        · obtain ⟨b, off, rfl, hbl, hc1⟩ := hI3 k Q[k] (List.getElem?_eq_getElem hlt)
          have HDD : Hid (Q.drop k = Q[k] :: Q.drop (k + 1)) := hide (List.drop_eq_getElem_cons hlt)
          generalize Q[k] = p at *
          have HG2 : Hid (maxFrom 0 Q = maxFrom (if e < p then p else e) (Q.drop (k + 1))) := hide (by rw [HG.out, HDD.out, maxFrom])
          have hz : (0 : Int) ≤ k := by omega
          have hz2 : (k : Int) < Q.length := by omega
          go_wp2_with fail
          go_roundw
          case rel => exact ⟨k + 1, _, hlt, by go_num, rfl, HG2, trivial⟩
          case measure => simp [intOf]; omega
        · have H4 : Hid (flowEndL l ord = e) := hide (by rw [H3.out, HG.out, List.drop_of_length_le (by omega), maxFrom])
          go_wp2_with fail
          go_ret
          exact ⟨by rw [H4.out]; rfl, hb3⟩
end Go.Proofs.Yteloapholoechab
