/- Contract of PlanOk of the reference model: it answers the same test as the program's.
   Conditions: all lists have at most 1048576 elements. -/
import Derived.Test.YtdlbcadgomegoaaDoorTab
namespace Go.Proofs.YtdlbcadgomegoaaDoor
open Go.RowKit

theorem planOkL_false1 {l : List Item} {want stock rs lf : List Int} (h : amountsOk l want stock = false) : planOkL l want stock rs lf = false := by unfold planOkL; rw [h]; rfl

set_option maxRecDepth 100000 in
set_option maxHeartbeats 2000000 in
theorem specPlanOk_any (A A' A'' B B' : Option Addr) (c c' c'' d d' : Nat) (l : List Item) (want stock rs lf : List Int) (w : World) (hA : ItemsAt w A l) (hl : l.length ≤ 1048576) (hp : ∀ x ∈ l, x.parts.length ≤ 1048576)
    (hX : IntsAt w A' want) (hx : want.length ≤ 1048576) (hY : IntsAt w A'' stock) (hy : stock.length ≤ 1048576) (hR : IntsAt w B rs) (_hr : rs.length ≤ 1048576) (hL : IntsAt w B' lf) (_hf : lf.length ≤ 1048576) :
    Calls Tryd.prog 15 #[.slice A l.length c, .slice A' want.length c', .slice A'' stock.length c'', .agg #[.slice B rs.length d, .slice B' lf.length d']] w fun e w' => e = .returned (.bool (planOkL l want stock rs lf)) ∧ Below w.heap.size w w' := by
  have HP := hide hp
  clear hp
  cases hI : itemsOk l with
  | false =>
    have HI := hide hI
    have HE : Hid (planOkL l want stock rs lf = false) := hide (planOkL_false1 (by unfold amountsOk; rw [hI]; rfl))
    clear hI
    go_enter Tryd.func15, Tryd.ntmps15
    go_wp2_with fail
    refine (specItemsValid_any _ _ _ _ (hA.below (by go_grown)) hl HP.out).mono ?_
    rintro e w1 ⟨rfl, hB⟩
    rw [HI.out]
    have hb : Below w.heap.size w w1 := Below.trans (by go_grown) (hB.mono (by simp))
    obtain ⟨hc1, hc2, hc3⟩ : w1.cell? ⟨w.heap.size, 0, none⟩ = some (.slice B rs.length d) ∧ w1.cell? ⟨w.heap.size, 1, none⟩ = some (.slice B' lf.length d') ∧ w.heap.size < w1.heap.size := keepBox (by simp) hB (by simp)
    go_wp2_with fail
    go_ret
    exact ⟨by rw [HE.out]; rfl, hb⟩
  | true =>
    have HI := hide hI
    cases hX1 : amtOk l want with
    | false =>
      have HX := hide hX1
      have HE : Hid (planOkL l want stock rs lf = false) := hide (planOkL_false1 (by unfold amountsOk; rw [hI, hX1]; rfl))
      clear hI hX1
      go_enter Tryd.func15, Tryd.ntmps15
      go_wp2_with fail
      refine (specItemsValid_any _ _ _ _ (hA.below (by go_grown)) hl HP.out).mono ?_
      rintro e w1 ⟨rfl, hB⟩
      rw [HI.out]
      have hb : Below w.heap.size w w1 := Below.trans (by go_grown) (hB.mono (by simp))
      obtain ⟨hc1, hc2, hc3⟩ : w1.cell? ⟨w.heap.size, 0, none⟩ = some (.slice B rs.length d) ∧ w1.cell? ⟨w.heap.size, 1, none⟩ = some (.slice B' lf.length d') ∧ w.heap.size < w1.heap.size := keepBox (by simp) hB (by simp)
      go_wp2_with fail
      refine (l1Amounts_any _ _ _ _ _ _ _ (hX.below hb) hx).mono ?_
      rintro e w2 ⟨rfl, rfl⟩
      rw [show (decide ((want.length : Int) = l.length) && rangeOk 50 want) = false from HX.out]
      go_wp2_with fail
      go_ret
      exact ⟨by rw [HE.out]; rfl, hb⟩
    | true =>
      have HX := hide hX1
      cases hY1 : amtOk l stock with
      | false =>
        have HY := hide hY1
        have HE : Hid (planOkL l want stock rs lf = false) := hide (planOkL_false1 (by unfold amountsOk; rw [hI, hX1, hY1]; rfl))
        clear hI hX1 hY1
        go_enter Tryd.func15, Tryd.ntmps15
        go_wp2_with fail
        refine (specItemsValid_any _ _ _ _ (hA.below (by go_grown)) hl HP.out).mono ?_
        rintro e w1 ⟨rfl, hB⟩
        rw [HI.out]
        have hb : Below w.heap.size w w1 := Below.trans (by go_grown) (hB.mono (by simp))
        obtain ⟨hc1, hc2, hc3⟩ : w1.cell? ⟨w.heap.size, 0, none⟩ = some (.slice B rs.length d) ∧ w1.cell? ⟨w.heap.size, 1, none⟩ = some (.slice B' lf.length d') ∧ w.heap.size < w1.heap.size := keepBox (by simp) hB (by simp)
        go_wp2_with fail
        refine (l1Amounts_any _ _ _ _ _ _ _ (hX.below hb) hx).mono ?_
        rintro e w2 ⟨rfl, rfl⟩
        rw [show (decide ((want.length : Int) = l.length) && rangeOk 50 want) = true from HX.out]
        go_wp2_with fail
        refine (l1Amounts_any _ _ _ _ _ _ _ (hY.below hb) hy).mono ?_
        rintro e w2 ⟨rfl, rfl⟩
        rw [show (decide ((stock.length : Int) = l.length) && rangeOk 50 stock) = false from HY.out]
        go_wp2_with fail
        go_ret
        exact ⟨by rw [HE.out]; rfl, hb⟩
      | true =>
        have HY := hide hY1
        have HAM : Hid (amountsOk l want stock = true) := hide (by unfold amountsOk; rw [hI, hX1, hY1]; rfl)
        by_cases hrl : (rs.length : Int) = l.length
        · have hne : ((rs.length : Int) != l.length) = false := by simp [hrl]
          by_cases hfl : (lf.length : Int) = l.length
          · have hne2 : ((lf.length : Int) != l.length) = false := by simp [hfl]
            have HE : Hid (planOkL l want stock rs lf = (rangeOk 9999999 rs && allTo (okAt l want stock rs lf) l.length)) := hide (by unfold planOkL runsOk; rw [HAM.out, decide_eq_true hrl, decide_eq_true hfl]; rfl)
            obtain ⟨hra, hrb⟩ := eqLe (show rs.length = l.length by omega)
            obtain ⟨hfa, hfb⟩ := eqLe (show lf.length = l.length by omega)
            obtain ⟨hxa, hxb⟩ := eqLe (amtOk_at hX1).1
            obtain ⟨hya, hyb⟩ := eqLe (amtOk_at hY1).1
            have HW2 := hide (amtOk_at hX1).2
            have HS2 := hide (amtOk_at hY1).2
            have hl6 := itemsOk_len hI
            clear hI hX1 hY1 hrl hfl
            go_enter Tryd.func15, Tryd.ntmps15
            go_wp2_with fail
            refine (specItemsValid_any _ _ _ _ (hA.below (by go_grown)) hl HP.out).mono ?_
            rintro e w1 ⟨rfl, hB⟩
            rw [HI.out]
            have hb : Below w.heap.size w w1 := Below.trans (by go_grown) (hB.mono (by simp))
            obtain ⟨hc1, hc2, hc3⟩ : w1.cell? ⟨w.heap.size, 0, none⟩ = some (.slice B rs.length d) ∧ w1.cell? ⟨w.heap.size, 1, none⟩ = some (.slice B' lf.length d') ∧ w.heap.size < w1.heap.size := keepBox (by simp) hB (by simp)
            go_wp2_with fail
            refine (l1Amounts_any _ _ _ _ _ _ _ (hX.below hb) hx).mono ?_
            rintro e w2 ⟨rfl, rfl⟩
            rw [show (decide ((want.length : Int) = l.length) && rangeOk 50 want) = true from HX.out]
            go_wp2_with fail
            refine (l1Amounts_any _ _ _ _ _ _ _ (hY.below hb) hy).mono ?_
            rintro e w2 ⟨rfl, rfl⟩
            rw [show (decide ((stock.length : Int) = l.length) && rangeOk 50 stock) = true from HY.out]
            go_wp2_with fail
            go_loopw [9] (fun i wr => ∃ k : Nat, k ≤ l.length ∧ i = .int .i64 k ∧ Hid (rangeOk 9999999 rs = rangeOk 9999999 (rs.drop k)) ∧ wr = w1) (fun i _ => l.length - (intOf i).toNat)
            case atStart => exact ⟨0, Nat.zero_le _, rfl, hide rfl, rfl⟩
            case round =>
              obtain ⟨k, hk, rfl, HG, rfl⟩ := hrel
              by_cases hlt : k < l.length
              · obtain ⟨b4, off4, rfl, hbl4, hr1⟩ := (hR.below hb) k (rs[k]'(by omega)) (List.getElem?_eq_getElem (by omega))
                have HD : Hid (rs.drop k = (rs[k]'(by omega)) :: rs.drop (k + 1)) := hide (List.drop_eq_getElem_cons (by omega))
                generalize (rs[k]'(by omega)) = r at *
                have hz : (0 : Int) ≤ k := by omega
                have hz2 : (k : Int) < l.length := by omega
                have hz5 : (k : Int) < rs.length := by omega
                cases hp : inR r 0 9999999 with
                | false =>
                  have HP3 := hide hp
                  have H3 : Hid (planOkL l want stock rs lf = false) := hide (by rw [HE.out, HG.out, HD.out]; unfold rangeOk; rw [List.all_cons, hp]; rfl)
                  clear hp
                  go_wp2_with fail
                  refine (l1In_is _ _ _ _ HP3 _).mono ?_
                  rintro e w' ⟨rfl, rfl⟩
                  go_wp2_with fail
                  go_ret
                  exact ⟨by rw [H3.out]; rfl, hb⟩
                | true =>
                  have HP3 := hide hp
                  have H3 : Hid (rangeOk 9999999 rs = rangeOk 9999999 (rs.drop (k + 1))) := hide (by rw [HG.out, HD.out]; unfold rangeOk; rw [List.all_cons, hp]; rfl)
                  clear hp
                  go_wp2_with fail
                  refine (l1In_is _ _ _ _ HP3 _).mono ?_
                  rintro e w' ⟨rfl, rfl⟩
                  go_wp2_with fail
                  go_roundw
                  case rel => exact ⟨k + 1, hlt, by go_num, H3, trivial⟩
                  case measure => simp [intOf]; omega
              · have HQ : Hid (rangeOk 9999999 rs = true) := hide (by rw [HG.out, List.drop_of_length_le (by omega)]; rfl)
                have HE2 : Hid (planOkL l want stock rs lf = allTo (okAt l want stock rs lf) l.length) := hide (by rw [HE.out, HQ.out]; rfl)
                clear HE HG
                go_wp2_with fail
                refine (l1Left_any _ _ _ _ _ _ _ _ _ _ _ _ _ (hA.below hb) HI (hX.below hb) (hY.below hb) (hR.below hb) hxa hxb hya hyb hra hrb HW2 HS2 HQ).mono ?_
                rintro e w2 ⟨v, rfl, hS, hB2⟩
                have hb2 := next hb hB2
                obtain ⟨hd1, hd2, hd3⟩ := keepBox (And.intro hc1 (And.intro hc2 hc3)) hB2 hc3
                clear hc1 hc2 hc3 hB2
                go_wp2_with fail
                obtain ⟨A4, c4, rfl, hI4, -⟩ := hS.form
                rw [tab_len]
                go_loopw [11] (fun i wr => ∃ k : Nat, k ≤ l.length ∧ i = .int .i64 k ∧ Hid (allTo (okAt l want stock rs lf) k = true) ∧ Below w2.heap.size w2 wr) (fun i _ => l.length - (intOf i).toNat)
                case atStart => exact ⟨0, Nat.zero_le _, rfl, hide rfl, Below.refl _ _⟩
                case round =>
                  obtain ⟨k, hk, rfl, HG, hbw⟩ := hrel
                  have hbr := next hb2 hbw
                  by_cases hlt : k < l.length
                  · obtain ⟨b4, off4, rfl, hbl4, hr1⟩ := (hI4.below hbw) k (leftAt l want stock rs k) (tab_at hlt)
                    obtain ⟨b5, off5, rfl, hbl5, hf1⟩ := (hL.below hbr) k (lf[k]'(by omega)) (List.getElem?_eq_getElem (by omega))
                    have HX5 : Hid (lf.getD k 0 = lf[k]'(by omega)) := hide (by simp [show k < lf.length by omega])
                    generalize (lf[k]'(by omega)) = f at *
                    obtain ⟨t, HT⟩ : ∃ t, Hid (leftAt l want stock rs k = t) := ⟨_, hide rfl⟩
                    rw [HT.out] at hr1
                    have HOK : Hid (okAt l want stock rs lf k = (decide (0 ≤ t) && decide (t = f))) := hide (by unfold okAt; rw [HX5.out, HT.out])
                    obtain ⟨hx1, hx2, hx3⟩ := keepBox (And.intro hd1 (And.intro hd2 hd3)) hbw hd3
                    have hz : (0 : Int) ≤ k := by omega
                    have hz2 : (k : Int) < l.length := by omega
                    have hz5 : (k : Int) < lf.length := by omega
                    by_cases hneg : t < 0
                    · have HF : Hid (planOkL l want stock rs lf = false) := hide (by rw [HE2.out]; exact allTo_false (k := k) (by rw [HOK.out, decide_eq_false (by omega)]; rfl) _ hlt)
                      have hdn : decide (t < 0) = true := decide_eq_true hneg
                      clear hneg
                      go_wp2_with fail
                      go_quiet (fail)
                      go_wp2_with fail
                      go_ret
                      exact ⟨by rw [HF.out]; rfl, below_drewN hbr _⟩
                    · have hdn : decide (t < 0) = false := decide_eq_false hneg
                      by_cases hef : t = f
                      · have hne3 : (t != f) = false := by simp [hef]
                        have HG2 : Hid (allTo (okAt l want stock rs lf) (k + 1) = true) := hide (by rw [allTo_succ, HG.out, HOK.out, decide_eq_true (by omega), decide_eq_true hef]; rfl)
                        clear hef
                        go_wp2_with fail
                        go_quiet (fail)
                        go_wp2_with fail
                        go_roundw
                        case rel => exact ⟨k + 1, hlt, by go_num, HG2, below_drewN hbw _⟩
                        case measure => simp [intOf]; omega
                      · have hne3 : (t != f) = true := by simp [hef]
                        have HF : Hid (planOkL l want stock rs lf = false) := hide (by rw [HE2.out]; exact allTo_false (k := k) (by rw [HOK.out, decide_eq_false hef, Bool.and_false]) _ hlt)
                        clear hef
                        go_wp2_with fail
                        go_quiet (fail)
                        go_wp2_with fail
                        go_ret
                        exact ⟨by rw [HF.out]; rfl, below_drewN hbr _⟩
                  · have HF : Hid (planOkL l want stock rs lf = true) := hide (by rw [HE2.out, ← HG.out, show k = l.length from by omega])
                    go_wp2_with fail
                    go_ret
                    exact ⟨by rw [HF.out]; rfl, hbr⟩
          · have hne2 : ((lf.length : Int) != l.length) = true := by simp [hfl]
            have HE : Hid (planOkL l want stock rs lf = false) := hide (by unfold planOkL; rw [decide_eq_false hfl, Bool.false_and, Bool.and_false, Bool.and_false])
            clear hI hX1 hY1 hrl hfl
            go_enter Tryd.func15, Tryd.ntmps15
            go_wp2_with fail
            refine (specItemsValid_any _ _ _ _ (hA.below (by go_grown)) hl HP.out).mono ?_
            rintro e w1 ⟨rfl, hB⟩
            rw [HI.out]
            have hb : Below w.heap.size w w1 := Below.trans (by go_grown) (hB.mono (by simp))
            obtain ⟨hc1, hc2, hc3⟩ : w1.cell? ⟨w.heap.size, 0, none⟩ = some (.slice B rs.length d) ∧ w1.cell? ⟨w.heap.size, 1, none⟩ = some (.slice B' lf.length d') ∧ w.heap.size < w1.heap.size := keepBox (by simp) hB (by simp)
            go_wp2_with fail
            refine (l1Amounts_any _ _ _ _ _ _ _ (hX.below hb) hx).mono ?_
            rintro e w2 ⟨rfl, rfl⟩
            rw [show (decide ((want.length : Int) = l.length) && rangeOk 50 want) = true from HX.out]
            go_wp2_with fail
            refine (l1Amounts_any _ _ _ _ _ _ _ (hY.below hb) hy).mono ?_
            rintro e w2 ⟨rfl, rfl⟩
            rw [show (decide ((stock.length : Int) = l.length) && rangeOk 50 stock) = true from HY.out]
            go_wp2_with fail
            go_ret
            exact ⟨by rw [HE.out]; rfl, hb⟩
        · have hne : ((rs.length : Int) != l.length) = true := by simp [hrl]
          have HE : Hid (planOkL l want stock rs lf = false) := hide (by unfold planOkL runsOk; rw [decide_eq_false hrl, Bool.false_and, Bool.false_and, Bool.and_false])
          clear hI hX1 hY1 hrl
          go_enter Tryd.func15, Tryd.ntmps15
          go_wp2_with fail
          refine (specItemsValid_any _ _ _ _ (hA.below (by go_grown)) hl HP.out).mono ?_
          rintro e w1 ⟨rfl, hB⟩
          rw [HI.out]
          have hb : Below w.heap.size w w1 := Below.trans (by go_grown) (hB.mono (by simp))
          obtain ⟨hc1, hc2, hc3⟩ : w1.cell? ⟨w.heap.size, 0, none⟩ = some (.slice B rs.length d) ∧ w1.cell? ⟨w.heap.size, 1, none⟩ = some (.slice B' lf.length d') ∧ w.heap.size < w1.heap.size := keepBox (by simp) hB (by simp)
          go_wp2_with fail
          refine (l1Amounts_any _ _ _ _ _ _ _ (hX.below hb) hx).mono ?_
          rintro e w2 ⟨rfl, rfl⟩
          rw [show (decide ((want.length : Int) = l.length) && rangeOk 50 want) = true from HX.out]
          go_wp2_with fail
          refine (l1Amounts_any _ _ _ _ _ _ _ (hY.below hb) hy).mono ?_
          rintro e w2 ⟨rfl, rfl⟩
          rw [show (decide ((stock.length : Int) = l.length) && rangeOk 50 stock) = true from HY.out]
          go_wp2_with fail
          go_ret
          exact ⟨by rw [HE.out]; rfl, hb⟩
end Go.Proofs.YtdlbcadgomegoaaDoor
