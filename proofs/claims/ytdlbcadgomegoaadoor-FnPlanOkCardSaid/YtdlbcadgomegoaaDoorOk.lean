/- Contracts of PlanOk, of the program and of the reference model: both answer one test of the list, what is wanted, the stock and the plan.
   Conditions: all lists have at most 1048576 elements. -/
import Derived.Test.YtdlbcadgomegoaaDoorPlan
import Derived.IntWalk
namespace Go.Proofs.YtdlbcadgomegoaaDoor
open Go.RowKit

def runsOk (l : List Item) (rs : List Int) : Bool := decide ((rs.length : Int) = l.length) && rangeOk 9999999 rs
def okAt (l : List Item) (want stock rs lf : List Int) (j : Nat) : Bool := decide (0 ≤ leftAt l want stock rs j) && decide (leftAt l want stock rs j = lf.getD j 0)
def planOkL (l : List Item) (want stock rs lf : List Int) : Bool :=
  amountsOk l want stock && (runsOk l rs && (decide ((lf.length : Int) = l.length) && allTo (okAt l want stock rs lf) l.length))

theorem keepBox {w w' : World} {B b : Nat} {u v : Value} (h : w.cell? ⟨b, 0, none⟩ = some u ∧ w.cell? ⟨b, 1, none⟩ = some v ∧ b < w.heap.size) (hB : Below B w w') (hb : b < B) :
    w'.cell? ⟨b, 0, none⟩ = some u ∧ w'.cell? ⟨b, 1, none⟩ = some v ∧ b < w'.heap.size :=
  ⟨(hB.cell hb).trans h.1, (hB.cell hb).trans h.2.1, Nat.lt_of_lt_of_le h.2.2 hB.size⟩

theorem eqLe {a b : Nat} (h : a = b) : a ≤ b ∧ b ≤ a := by omega

theorem runsOk_at {l : List Item} {rs : List Int} (h : runsOk l rs = true) : rs.length = l.length ∧ rangeOk 9999999 rs = true := by
  unfold runsOk at h
  simp only [Bool.and_eq_true, decide_eq_true_eq] at h
  exact ⟨by omega, h.2⟩

/-- What itemsOk says of the parts, as upS_range and upS_same want it. -/
theorem itemsOk_many {l : List Item} (h : itemsOk l = true) (i : Nat) (x : Item) (hx : l[i]? = some x) : x.parts.length ≤ 3 ∧ ∀ p ∈ x.parts, 0 ≤ p.many ∧ p.many ≤ 6 := by
  have := itemsOk_at h hx
  exact ⟨this.2.2.2.2.1, fun p hp => by have := this.2.2.2.2.2.2 p hp; omega⟩
theorem itemsOk_less {l : List Item} (h : itemsOk l = true) (i : Nat) (x : Item) (hx : l[i]? = some x) : ∀ p ∈ x.parts, p.of < (i : Int) := fun p hp => ((itemsOk_at h hx).2.2.2.2.2.2 p hp).2.1

set_option maxHeartbeats 2000000 in
theorem implPlanOk_any (A A' A'' B B' : Option Addr) (c c' c'' d d' : Nat) (l : List Item) (want stock rs lf : List Int) (w : World) (hA : ItemsAt w A l) (hl : l.length ≤ 1048576) (hp : ∀ x ∈ l, x.parts.length ≤ 1048576)
    (hX : IntsAt w A' want) (hx : want.length ≤ 1048576) (hY : IntsAt w A'' stock) (hy : stock.length ≤ 1048576) (hR : IntsAt w B rs) (hr : rs.length ≤ 1048576) (hL : IntsAt w B' lf) (_hf : lf.length ≤ 1048576) :
    Calls Tryd.prog 14 #[.slice A l.length c, .slice A' want.length c', .slice A'' stock.length c'', .agg #[.slice B rs.length d, .slice B' lf.length d']] w fun e w' => e = .returned (.bool (planOkL l want stock rs lf)) ∧ Below w.heap.size w w' := by
  have HP := hide hp
  clear hp
  have hmm := @run_makeMap Tryd.prog
  cases hI : amountsOk l want stock with
  | false =>
    have HI := hide hI
    have HE : Hid (planOkL l want stock rs lf = false) := by unfold planOkL; rw [hI]; exact hide rfl
    clear hI hmm
    go_enter Tryd.func14, Tryd.ntmps14
    go_wp2_with fail
    refine (amountsFit_any _ _ _ _ _ _ _ _ _ _ (hA.below (by go_grown)) hl HP.out (hX.below (by go_grown)) hx (hY.below (by go_grown)) hy).mono ?_
    rintro e w1 ⟨rfl, hB⟩
    rw [HI.out]
    have hb : Below w.heap.size w w1 := Below.trans (by go_grown) (hB.mono (by simp))
    go_wp2_with fail
    go_ret
    exact ⟨by rw [HE.out]; rfl, hb⟩
  | true =>
    have HI := hide hI
    cases hq : runsOk l rs with
    | false =>
      have HQ := hide hq
      have HE : Hid (planOkL l want stock rs lf = false) := by unfold planOkL; rw [hI, hq]; exact hide rfl
      clear hI hq hmm
      go_enter Tryd.func14, Tryd.ntmps14
      go_wp2_with fail
      refine (amountsFit_any _ _ _ _ _ _ _ _ _ _ (hA.below (by go_grown)) hl HP.out (hX.below (by go_grown)) hx (hY.below (by go_grown)) hy).mono ?_
      rintro e w1 ⟨rfl, hB⟩
      rw [HI.out]
      have hb : Below w.heap.size w w1 := Below.trans (by go_grown) (hB.mono (by simp))
      have hbx1 : w1.cell? ⟨w.heap.size, 0, none⟩ = some (.slice B rs.length d) ∧ w1.cell? ⟨w.heap.size, 1, none⟩ = some (.slice B' lf.length d') ∧ w.heap.size < w1.heap.size := keepBox (by simp) hB (by simp)
      obtain ⟨hc1, hc2, hc3⟩ := hbx1
      go_wp2_with fail
      refine (allInRange_any _ _ _ _ _ _ (hR.below hb) hr).mono ?_
      rintro e w2 ⟨rfl, hB2⟩
      have hb2 := next hb hB2
      rw [show (decide ((rs.length : Int) = l.length) && rangeOk 9999999 rs) = false from HQ.out]
      go_wp2_with fail
      go_ret
      exact ⟨by rw [HE.out]; rfl, hb2⟩
    | true =>
      have HQ := hide hq
      by_cases hfl : (lf.length : Int) = l.length
      · have hne : ((lf.length : Int) != l.length) = false := by simp [hfl]
        have HE : Hid (planOkL l want stock rs lf = allTo (okAt l want stock rs lf) l.length) := by unfold planOkL; rw [hI, hq, decide_eq_true hfl]; exact hide rfl
        obtain ⟨hI1, ⟨hI2, hI3⟩, ⟨hI4, hI5⟩⟩ := amountsOk_at hI
        obtain ⟨hI2a, hI2b⟩ := eqLe hI2
        obtain ⟨hI4a, hI4b⟩ := eqLe hI4
        have HI1 := hide hI1
        have HI3 := hide hI3
        have HI5 := hide hI5
        have HQ2 := hide (runsOk_at hq).2
        obtain ⟨hrla, hrlb⟩ := eqLe (runsOk_at hq).1
        have hl6 := itemsOk_len hI1
        obtain ⟨hfla, hflb⟩ := eqLe (show lf.length = l.length by omega)
        clear hI hq hI1 hI2 hI3 hI4 hI5 hfl
        go_enter Tryd.func14, Tryd.ntmps14
        go_wp2_with fail
        refine (amountsFit_any _ _ _ _ _ _ _ _ _ _ (hA.below (by go_grown)) hl HP.out (hX.below (by go_grown)) hx (hY.below (by go_grown)) hy).mono ?_
        rintro e w1 ⟨rfl, hB⟩
        rw [HI.out]
        have hb : Below w.heap.size w w1 := Below.trans (by go_grown) (hB.mono (by simp))
        have hbx1 : w1.cell? ⟨w.heap.size, 0, none⟩ = some (.slice B rs.length d) ∧ w1.cell? ⟨w.heap.size, 1, none⟩ = some (.slice B' lf.length d') ∧ w.heap.size < w1.heap.size := keepBox (by simp) hB (by simp)
        obtain ⟨hc1, hc2, hc3⟩ := hbx1
        go_wp2_with fail
        refine (allInRange_any _ _ _ _ _ _ (hR.below hb) hr).mono ?_
        rintro e w2 ⟨rfl, hB2⟩
        have hb2 := next hb hB2
        have hbx2 := keepBox (And.intro hc1 (And.intro hc2 hc3)) hB2 hc3
        rw [show (decide ((rs.length : Int) = l.length) && rangeOk 9999999 rs) = true from HQ.out]
        obtain ⟨hd1, hd2, hd3⟩ := hbx2
        have HBX := hide (And.intro hd1 (And.intro hd2 hd3))
        clear hc1 hc2 hc3 hB hB2
        go_wp2_with fail
        go_loopw [10] (fun i wr => ∃ (k : Nat) (j : Int), k ≤ l.length ∧ j + 1 = k ∧ i = .int .i64 j ∧ Hid (planOkL l want stock rs lf = allTo (okAt l want stock rs lf) k) ∧
            MapIs wr w2.heap.size (3 * (l.length - k)) (fun j => upS l rs j l.length - upS l rs j k) ∧ Below w2.heap.size w2 wr) (fun i _ => (intOf i + 1).toNat)
        case atStart =>
          exact ⟨l.length, (l.length : Int) - 1, Nat.le_refl _, by omega, rfl, HE, ((MapIs.made w2).congr (fun j => by omega)).mono (Nat.zero_le _), by go_grown⟩
        case round =>
          obtain ⟨k, j, hk, hjk, rfl, HG, hM, hbw⟩ := hrel
          have hbr : Below w.heap.size w wr := next hb2 hbw
          have hbxr := keepBox HBX.out hbw HBX.out.2.2
          have hsz := hbw.size
          have hMlt := hM.lt
          rcases Nat.eq_zero_or_pos k with hk0 | hk0
          · subst hk0
            obtain rfl : j = -1 := by omega
            have HF : Hid (planOkL l want stock rs lf = true) := HG
            clear hM
            go_wp2_with fail
            go_ret
            exact ⟨by rw [HF.out]; rfl, hbr⟩
          · obtain ⟨k, rfl⟩ : ∃ k', k = k' + 1 := ⟨k - 1, by omega⟩
            have hlt : k < l.length := by omega

            obtain rfl : j = (k : Int) := by omega
            obtain ⟨bl, offl, Al, cl, rfl, hbl, hi1, hi2, hi3, hpa⟩ := (hA.below hb2) k l[k] (List.getElem?_eq_getElem hlt)
            obtain ⟨b2, off2, rfl, hbl2, hs1⟩ := (hY.below hb2) k (stock[k]'(by omega)) (List.getElem?_eq_getElem (by omega))
            obtain ⟨b3, off3, rfl, hbl3, hw1⟩ := (hX.below hb2) k (want[k]'(by omega)) (List.getElem?_eq_getElem (by omega))
            obtain ⟨b4, off4, rfl, hbl4, hr1⟩ := (hR.below hb2) k (rs[k]'(by omega)) (List.getElem?_eq_getElem (by omega))
            obtain ⟨b5, off5, rfl, hbl5, hf1⟩ := (hL.below hb2) k (lf[k]'(by omega)) (List.getElem?_eq_getElem (by omega))
            have hit := itemsOk_at HI1.out (List.getElem?_eq_getElem hlt)
            have hwr := rangeOk_at HI3.out (List.getElem?_eq_getElem (show k < want.length by omega))
            have hsr := rangeOk_at HI5.out (List.getElem?_eq_getElem (show k < stock.length by omega))
            have hrr := rangeOk_at HQ2.out (List.getElem?_eq_getElem (show k < rs.length by omega))
            have HX1 : Hid (l.getD k nil0 = l[k]) := hide (by simp [hlt])
            have HX2 : Hid (stock.getD k 0 = stock[k]'(by omega)) := hide (by simp [show k < stock.length by omega])
            have HX3 : Hid (want.getD k 0 = want[k]'(by omega)) := hide (by simp [show k < want.length by omega])
            have HX4 : Hid (rs.getD k 0 = rs[k]'(by omega)) := hide (by simp [show k < rs.length by omega])
            have HX5 : Hid (lf.getD k 0 = lf[k]'(by omega)) := hide (by simp [show k < lf.length by omega])
            generalize l[k] = x at *
            generalize (stock[k]'(by omega)) = s at *
            generalize (want[k]'(by omega)) = q at *
            generalize (rs[k]'(by omega)) = r at *
            generalize (lf[k]'(by omega)) = f at *
            obtain ⟨u, HU⟩ : ∃ u, Hid (upS l rs k l.length = u) := ⟨_, hide rfl⟩
            have hu := upS_range (itemsOk_many HI1.out) (fun i r h => rangeOk_at HQ2.out h) k l.length
            rw [HU.out] at hu
            have hu0 : 0 ≤ u := hu.1
            have hu1 : u ≤ 1079999892 := by omega
            have HUS : Hid (upS l rs k (k + 1) = 0) := hide (upS_same (itemsOk_less HI1.out) _ (Nat.le_refl _))
            obtain ⟨M, HM⟩ : ∃ M, Hid (madeI x.yield r = M) := ⟨_, hide rfl⟩
            have hmr := madeI_range hit.2.2.1 hit.2.2.2.1 hrr.1 hrr.2
            rw [HM.out] at hmr
            have HLE : Hid (leftAt l want stock rs k = s + M - q - u) := hide (by unfold leftAt; rw [HX1.out, HX2.out, HX3.out, HX4.out, HU.out, HM.out])
            have HOK : Hid (okAt l want stock rs lf k = (decide (0 ≤ s + M - q - u) && decide (s + M - q - u = f))) := hide (by unfold okAt; rw [HLE.out, HX5.out])
            have HPA : Hid (∀ w', Below w2.heap.size w2 w' → PartsAt w' Al x.parts) := hide (fun w' h => hpa.below h)
            have hy0 : 0 ≤ x.yield := hit.2.2.1
            have hy1 : x.yield ≤ 6 := hit.2.2.2.1
            have hx3 : x.parts.length ≤ 3 := hit.2.2.2.2.1
            have HPM := hide hit.2.2.2.2.2.2
            have hm0 : 0 ≤ M := hmr.1
            have hm1 : M ≤ 59999994 := hmr.2
            have hs0 : 0 ≤ s := hsr.1
            have hs2 : s ≤ 50 := hsr.2
            have hq0 : 0 ≤ q := hwr.1
            have hq1 : q ≤ 50 := hwr.2
            have hr0 : 0 ≤ r := hrr.1
            have hr2 : r ≤ 9999999 := hrr.2
            have hz : (0 : Int) ≤ k := by omega
            have hz2 : (k : Int) < l.length := by omega
            have hz3 : (k : Int) < stock.length := by omega
            have hz4 : (k : Int) < want.length := by omega
            have hz5 : (k : Int) < rs.length := by omega
            have hz6 : (k : Int) < lf.length := by omega
            have HAll : Hid (∀ W, Below w2.heap.size w2 W → MapIs W w2.heap.size (3 * (l.length - (k + 1))) (fun j => upS l rs j l.length - upS l rs j (k + 1)) → W.cell? ⟨b2, off2 + k, none⟩ = some (.int .i64 s) ∧ W.cell? ⟨bl, offl + k * 3, none⟩ = some (.int .i64 x.yield) ∧ W.cell? ⟨bl, offl + k * 3 + 1, none⟩ = some (.slice Al x.parts.length cl) ∧ W.cell? ⟨bl, offl + k * 3 + 2, none⟩ = some (.int .i64 x.marks) ∧
                W.cell? ⟨w.heap.size, 0, none⟩ = some (.slice (some ⟨b4, off4, none⟩) rs.length d) ∧ W.cell? ⟨b4, off4 + k, none⟩ = some (.int .i64 r) ∧ W.cell? ⟨b3, off3 + k, none⟩ = some (.int .i64 q) ∧ (Instr.lookup 61 (.map (some w2.heap.size)) (.int .i64 (k : Int)) false).run Tryd.prog W = .ok (.int .i64 u) W) := hide (fun W hB hm => ⟨(hB.cell hbl2).trans hs1, (hB.cell hbl).trans hi1, (hB.cell hbl).trans hi2, (hB.cell hbl).trans hi3, (keepBox HBX.out hB HBX.out.2.2).1, (hB.cell hbl4).trans hr1, (hB.cell hbl3).trans hw1,
                by rw [hm.look k (by omega)]; show Result.ok (Value.int .i64 (upS l rs k l.length - upS l rs k (k + 1))) W = _; rw [HU.out, HUS.out, Int.sub_zero]⟩)
            have HADD : Hid (∀ W, Below w2.heap.size w2 W → MapIs W w2.heap.size (3 * (l.length - (k + 1))) (fun j => upS l rs j l.length - upS l rs j (k + 1)) →
                Calls Tryd.prog 38 #[.map (some w2.heap.size), .agg #[.int .i64 x.yield, .slice Al x.parts.length cl, .int .i64 x.marks], .int .i64 r] W fun e w' => e = .returned (.tuple #[]) ∧ MapIs w' w2.heap.size (3 * (l.length - (k + 1)) + x.parts.length) (fun j => upS l rs j l.length - upS l rs j (k + 1) + conTo x.parts r j x.parts.length) ∧ Below w2.heap.size W w') := hide (fun W hB hm =>
              addNeed_any _ _ _ _ _ _ w2.heap.size (3 * (l.length - (k + 1))) _ _ (fun w' h => HPA.out w' (hB.trans h)) hit.2.2.2.2.1 (by omega) (fun p hp => by have := hit.2.2.2.2.2.2 p hp; omega) hrr.1 (by omega)
                (fun j => by
                  have a := upS_range (itemsOk_many HI1.out) (fun i r h => rangeOk_at HQ2.out h) j l.length
                  have b := upS_range (itemsOk_many HI1.out) (fun i r h => rangeOk_at HQ2.out h) j (k + 1)
                  have c := upS_mono (itemsOk_many HI1.out) (fun i r h => rangeOk_at HQ2.out h) j (k + 1) l.length hlt
                  omega) hm)
            have HC2 : Hid (∀ W, Below w2.heap.size w2 W → W.cell? ⟨bl, offl + k * 3, none⟩ = some (.int .i64 x.yield) ∧ W.cell? ⟨bl, offl + k * 3 + 1, none⟩ = some (.slice Al x.parts.length cl) ∧ W.cell? ⟨bl, offl + k * 3 + 2, none⟩ = some (.int .i64 x.marks) ∧ W.cell? ⟨w.heap.size, 0, none⟩ = some (.slice (some ⟨b4, off4, none⟩) rs.length d) ∧ W.cell? ⟨b4, off4 + k, none⟩ = some (.int .i64 r)) := hide (fun W hB => ⟨(hB.cell hbl).trans hi1, (hB.cell hbl).trans hi2, (hB.cell hbl).trans hi3, (keepBox HBX.out hB HBX.out.2.2).1, (hB.cell hbl4).trans hr1⟩)
            have HF1 : Hid (∀ W, Below w2.heap.size w2 W → W.cell? ⟨b5, off5 + k, none⟩ = some (.int .i64 f)) := hide (fun W hB => (hB.cell hbl5).trans hf1)
            have HBL := hide hbl
            have hMd := hM.drew
            have HMd := hide hMd
            clear hit hwr hsr hrr hu hmr hpa hs1 hi1 hi2 hi3 hr1 hw1 hf1 hbl hbl2 hbl3 hbl4 hbl5 hbxr hM hMd
            have hw1 : IntKind.i64.wrap (s + M) = s + M := IntWalk.i64_in _ (by omega)
            have hw2 : IntKind.i64.wrap (s + M - q) = s + M - q := IntWalk.i64_in _ (by omega)
            have hw3 : IntKind.i64.wrap (s + M - q - u) = s + M - q - u := IntWalk.i64_in _ (by omega)
            go_wp2_with fail
            go_region_held3 (fun W => W.cell? ⟨b2, off2 + k, none⟩ = some (.int .i64 s) ∧ W.cell? ⟨bl, offl + k * 3, none⟩ = some (.int .i64 x.yield) ∧ W.cell? ⟨bl, offl + k * 3 + 1, none⟩ = some (.slice Al x.parts.length cl) ∧ W.cell? ⟨bl, offl + k * 3 + 2, none⟩ = some (.int .i64 x.marks) ∧
                W.cell? ⟨w.heap.size, 0, none⟩ = some (.slice (some ⟨b4, off4, none⟩) rs.length d) ∧ W.cell? ⟨b4, off4 + k, none⟩ = some (.int .i64 r) ∧ W.cell? ⟨b3, off3 + k, none⟩ = some (.int .i64 q) ∧ (Instr.lookup 61 (.map (some w2.heap.size)) (.int .i64 (k : Int)) false).run Tryd.prog W = .ok (.int .i64 u) W)
              (first | exact HAll.out _ hbw.drew HMd.out | exact HAll.out _ (hbw.drew.trans (hB.mono hsz)) (HMd.out.below hB))
              (first | (go_at_call 37; refine (madeBy_any _ _ _ _ _ _ _ hy0 hy1 hr0 (by omega)).mono ?_; rintro e W' ⟨rfl, hB⟩; rw [HM.out]))
            all_goals
              have hbW : Below w2.heap.size w2 W' := hbw.drew.trans (hB.mono hsz)
              have hMW := HMd.out.below hB
              have hMWd := hMW.drew
              have HMW := hide hMW
              have HMWd := hide hMWd
              have hf2 := HF1.out _ hbW
              obtain ⟨hbx1, hbx2, hbx3⟩ := keepBox HBX.out hbW HBX.out.2.2
              have hszW := hbW.size
              have hbb : Below w.heap.size w W' := next hb2 hbW
              clear hMW hMWd hB hw1 hw2 hw3
              by_cases hneg : s + M - q - u < 0
              · have HF : Hid (planOkL l want stock rs lf = false) := hide (by rw [HG.out, allTo_succ, HOK.out, decide_eq_false (by omega), Bool.false_and, Bool.and_false])
                go_wp2_with fail
                go_ret
                exact ⟨by rw [HF.out]; rfl, hbb⟩
              · by_cases hef : s + M - q - u = f
                · have hne2 : (s + M - q - u != f) = false := by simp [hef]
                  have HF : Hid (planOkL l want stock rs lf = allTo (okAt l want stock rs lf) k) := hide (by rw [HG.out, allTo_succ, HOK.out, decide_eq_true (by omega), decide_eq_true hef, Bool.and_true, Bool.and_true])
                  clear hef
                  go_wp2_with fail
                  go_region_held3 (fun W => W.cell? ⟨bl, offl + k * 3, none⟩ = some (.int .i64 x.yield) ∧ W.cell? ⟨bl, offl + k * 3 + 1, none⟩ = some (.slice Al x.parts.length cl) ∧ W.cell? ⟨bl, offl + k * 3 + 2, none⟩ = some (.int .i64 x.marks) ∧ W.cell? ⟨w.heap.size, 0, none⟩ = some (.slice (some ⟨b4, off4, none⟩) rs.length d) ∧ W.cell? ⟨b4, off4 + k, none⟩ = some (.int .i64 r))
                    (first | exact HC2.out _ hbW.drew | exact HC2.out _ (hbW.drew.trans hB2))
                    (first | (go_at_call 38; refine (HADD.out _ (hbW.drew) HMWd.out).mono ?_; rintro e W2 ⟨rfl, hM2, hB2⟩))
                  all_goals
                    have hbW2 : Below w2.heap.size w2 W2 := hbW.drew.trans hB2
                    have HM2 := hide hM2
                    clear hM2 hB2
                    go_wp2_with fail
                    go_roundw
                    case rel =>
                      refine ⟨k, (k : Int) - 1, by omega, by omega, by go_num, HF, (HM2.out.mono (by omega)).congr (fun j => ?_), hbW2⟩
                      rw [upS_succ l rs j k, HX1.out, HX4.out]
                      omega
                    case measure => simp [intOf]
                · have hne2 : (s + M - q - u != f) = true := by simp [hef]
                  have HF : Hid (planOkL l want stock rs lf = false) := hide (by rw [HG.out, allTo_succ, HOK.out, decide_eq_false hef, Bool.and_false, Bool.and_false])
                  clear hef
                  go_wp2_with fail
                  go_ret
                  exact ⟨by rw [HF.out]; rfl, hbb⟩
      · have hne : ((lf.length : Int) != l.length) = true := by simp [hfl]
        have HE : Hid (planOkL l want stock rs lf = false) := by unfold planOkL; rw [hI, hq, decide_eq_false hfl]; exact hide rfl
        clear hI hq hmm
        go_enter Tryd.func14, Tryd.ntmps14
        go_wp2_with fail
        refine (amountsFit_any _ _ _ _ _ _ _ _ _ _ (hA.below (by go_grown)) hl HP.out (hX.below (by go_grown)) hx (hY.below (by go_grown)) hy).mono ?_
        rintro e w1 ⟨rfl, hB⟩
        rw [HI.out]
        have hb : Below w.heap.size w w1 := Below.trans (by go_grown) (hB.mono (by simp))
        have hbx1 : w1.cell? ⟨w.heap.size, 0, none⟩ = some (.slice B rs.length d) ∧ w1.cell? ⟨w.heap.size, 1, none⟩ = some (.slice B' lf.length d') ∧ w.heap.size < w1.heap.size := keepBox (by simp) hB (by simp)
        obtain ⟨hc1, hc2, hc3⟩ := hbx1
        go_wp2_with fail
        refine (allInRange_any _ _ _ _ _ _ (hR.below hb) hr).mono ?_
        rintro e w2 ⟨rfl, hB2⟩
        have hb2 := next hb hB2
        have hbx2 := keepBox (And.intro hc1 (And.intro hc2 hc3)) hB2 hc3
        rw [show (decide ((rs.length : Int) = l.length) && rangeOk 9999999 rs) = true from HQ.out]
        obtain ⟨hd1, hd2, hd3⟩ := hbx2
        clear hc1 hc2 hc3 hB hB2
        go_wp2_with fail
        go_ret
        exact ⟨by rw [HE.out]; rfl, hb2⟩
end Go.Proofs.YtdlbcadgomegoaaDoor
