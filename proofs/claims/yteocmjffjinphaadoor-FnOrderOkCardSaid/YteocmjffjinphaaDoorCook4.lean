/- TogetherWaits: contracts of the program and of the reference model.
   Conditions: lists have at most 1048576 elements. -/
import Derived.Test.YteocmjffjinphaaDoorCook1
import Derived.Test.YteocmjffjinphaaDoorCook3
namespace Go.Proofs.YteocmjffjinphaaDoor
open Go.RowKit

def kGo (k : Int) : List Int → Int
  | [] => 0
  | v :: r => k * v + kGo (k + 1) r
def waitsGo (l : Int) : List Int → Int
  | [] => 0
  | v :: r => (l - v) + waitsGo (l - v) r
def valsOf (spans order : List Int) : List Int := order.map (fun o => spans.getD o.toNat 0)
def togL (spans order : List Int) : Int := if (spansOk spans && orderOkL order (spans.length : Int)) = true then kGo 0 (valsOf spans order) else -1

theorem kGo_succ : ∀ (vs : List Int) (k : Int), kGo (k + 1) vs = kGo k vs + sumL vs
  | [], k => by simp [kGo, sumL]
  | v :: r, k => by
    have ih := kGo_succ r (k + 1)
    simp only [kGo, sumL, ih, Int.add_mul, Int.one_mul]
    omega
theorem waits_eq : ∀ vs : List Int, waitsGo (sumL vs) vs = kGo 0 vs
  | [] => rfl
  | v :: r => by
    have ih := waits_eq r
    have e := kGo_succ r 0
    simp only [waitsGo, kGo, sumL, Int.zero_mul]
    rw [show v + sumL r - v = sumL r from by omega, ih, e]
    omega
theorem tab_getD (xs : List Int) : tab xs.length (fun i => xs.getD i 0) = xs := by
  apply List.ext_getElem?
  intro i
  by_cases hi : i < xs.length
  · rw [tab_at hi, List.getElem?_eq_getElem hi]
    simp [hi]
  · rw [List.getElem?_eq_none (by rw [tab_len]; omega), List.getElem?_eq_none (by omega)]
theorem vals_sum {spans order : List Int} (h : orderOkL order (spans.length : Int) = true) : sumL (valsOf spans order) = sumL spans := by
  obtain ⟨n, hn, hl, hr, hd⟩ := orderOkL_parts h
  obtain rfl : n = spans.length := by omega
  have := sum_all (f := fun o => spans.getD o.toNat 0) spans.length order hd (fun x hx => by
    obtain ⟨i, hi⟩ := List.getElem?_of_mem hx
    have := rangeOk_at hr hi
    omega) hl
  unfold valsOf
  rw [this]
  have e := tab_getD spans
  simp only [Int.toNat_natCast]
  rw [e]
theorem vals_at {spans order : List Int} {k o : Nat} {s : Int} (h : order[k]? = some (o : Int)) (hs : spans[o]? = some s) : (valsOf spans order)[k]? = some s := by
  unfold valsOf
  rw [List.getElem?_map, h]
  simp [hs]
theorem vals_len (spans order : List Int) : (valsOf spans order).length = order.length := by simp [valsOf]
theorem drop_of_at {xs : List Int} {k : Nat} {v : Int} (h : xs[k]? = some v) : xs.drop k = v :: xs.drop (k + 1) := by
  obtain ⟨hk, e⟩ := List.getElem?_eq_some_iff.1 h
  rw [List.drop_eq_getElem_cons hk, e]

set_option maxHeartbeats 1000000 in
theorem implTogetherWaits_any (A B : Option Addr) (c d : Nat) (xs ord : List Int) (w : World) (hA : IntsAt w A xs) (hl : xs.length ≤ 1048576) (hB : IntsAt w B ord) (hm : ord.length ≤ 1048576) :
    Calls Tryd.prog 30 #[.slice A xs.length c, .slice B ord.length d] w fun e w' => e = .returned (.int .i64 (togL xs ord)) ∧ Below w.heap.size w w' := by
  cases hI : spansOk xs with
  | false =>
    have HI := hide hI
    have H3 : Hid (togL xs ord = -1) := hide (by unfold togL; rw [hI]; rfl)
    clear hI
    go_enter Tryd.func30, Tryd.ntmps30
    go_wp2_with fail
    refine (implSpansValid_any _ _ _ _ hA hl).mono ?_
    rintro e w1 ⟨rfl, hB1⟩
    rw [HI.out]
    go_wp2_with fail
    go_ret
    exact ⟨by rw [H3.out]; rfl, hB1⟩
  | true =>
    have HI := hide hI
    cases hO : orderOkL ord (xs.length : Int) with
    | false =>
      have HO := hide hO
      have H3 : Hid (togL xs ord = -1) := hide (by unfold togL; rw [hO]; simp)
      clear hI hO
      go_enter Tryd.func30, Tryd.ntmps30
      go_wp2_with fail
      refine (implSpansValid_any _ _ _ _ hA hl).mono ?_
      rintro e w1 ⟨rfl, hB1⟩
      rw [HI.out]
      go_wp2_with fail
      refine (implOrderOk_any _ _ _ _ _ (hB.below hB1) hm).mono ?_
      rintro e w2 ⟨rfl, hB2⟩
      rw [HO.out]
      have hb2 := next hB1 hB2
      go_wp2_with fail
      go_ret
      exact ⟨by rw [H3.out]; rfl, hb2⟩
    | true =>
      have HO := hide hO
      have h6 := spansOk_len hI
      obtain ⟨n, hn, hol, hor, -⟩ := orderOkL_parts hO
      obtain rfl : n = xs.length := by omega
      have HOR := hide hor
      have HOL := hide hol
      have HVL : Hid ((valsOf xs ord).length = xs.length) := hide (by rw [vals_len, hol])
      have HSW : Hid (sumW xs = sumL (valsOf xs ord)) := hide (by
        rw [vals_sum hO]
        exact sumW_plain (hi := 30) (fun x hx => by
          obtain ⟨i, hi⟩ := List.getElem?_of_mem hx
          exact spansOk_at hI hi) (by omega) (by omega))
      have hsr := sumL_range (hi := 30) (xs := xs) (fun x hx => by
        obtain ⟨i, hi⟩ := List.getElem?_of_mem hx
        exact spansOk_at hI hi)
      rw [← vals_sum hO] at hsr
      have HSR : Hid (0 ≤ sumL (valsOf xs ord) ∧ sumL (valsOf xs ord) ≤ 180) := hide (by omega)
      have H3 : Hid (togL xs ord = 0 + waitsGo (sumL (valsOf xs ord)) (valsOf xs ord)) := hide (by unfold togL; rw [hI, hO, if_pos (by rfl), waits_eq]; omega)
      obtain ⟨vs, hvs⟩ : ∃ vs, valsOf xs ord = vs := ⟨_, rfl⟩
      have HVS := hide hvs
      rw [hvs] at HSW HSR H3 HVL
      clear hI hO hn hol hor hsr hvs
      go_enter Tryd.func30, Tryd.ntmps30
      go_wp2_with fail
      refine (implSpansValid_any _ _ _ _ hA hl).mono ?_
      rintro e w1 ⟨rfl, hB1⟩
      rw [HI.out]
      go_wp2_with fail
      refine (implOrderOk_any _ _ _ _ _ (hB.below hB1) hm).mono ?_
      rintro e w2 ⟨rfl, hB2⟩
      rw [HO.out]
      have hb2 := next hB1 hB2
      go_wp2_with fail
      refine (sumOf_any _ _ _ _ (hA.below hb2) hl).mono ?_
      rintro e w3 ⟨rfl, rfl⟩
      rw [HSW.out]
      have HA2 := hide (hA.below hb2)
      have HB2 := hide (hB.below hb2)
      go_wp2_with fail
      go_loopw [5, 6, 23] (fun sv lv i wr => ∃ (k : Nat) (s l : Int), k ≤ xs.length ∧ i = .int .i64 k ∧ sv = .int .i64 s ∧ lv = .int .i64 l ∧ 0 ≤ s ∧ s ≤ 180 * k ∧ Hid (l = sumL (vs.drop k)) ∧ 0 ≤ l ∧ l ≤ 180 ∧ Hid (togL xs ord = s + waitsGo l (vs.drop k)) ∧ wr = w2) (fun _ _ i _ => xs.length - (intOf i).toNat)
      case atStart => exact ⟨0, 0, sumL vs, Nat.zero_le _, rfl, rfl, rfl, by omega, by omega, hide rfl, HSR.out.1, HSR.out.2, H3, rfl⟩
      case round =>
        clear H3
        obtain ⟨k, s, l, hk, rfl, rfl, rfl, hs0, hs1, HL, hl0, hl1, HG, rfl⟩ := hrel
        by_cases hlt : k < xs.length
        · have hlo : k < ord.length := by rw [HOL.out]; exact hlt
          obtain ⟨b1, off1, rfl, hbl1, hc1⟩ := HB2.out k ord[k] (List.getElem?_eq_getElem hlo)
          have ho := rangeOk_at HOR.out (List.getElem?_eq_getElem hlo)
          have hoe := List.getElem?_eq_getElem hlo
          generalize ord[k] = o at *
          obtain ⟨q, rfl⟩ : ∃ q : Nat, o = q := ⟨o.toNat, by omega⟩
          have hqn : q < xs.length := by omega
          obtain ⟨b2, off2, rfl, hbl2, hc2⟩ := HA2.out q xs[q] (List.getElem?_eq_getElem hqn)
          have hv := spansOk_at HI.out (List.getElem?_eq_getElem hqn)
          have HD : Hid (vs.drop k = xs[q] :: vs.drop (k + 1)) := hide (by rw [← HVS.out]; exact drop_of_at (vals_at hoe (List.getElem?_eq_getElem hqn)))
          generalize xs[q] = v at *
          obtain ⟨hv0, hv1⟩ := hv
          have HL2 : Hid (l - v = sumL (vs.drop (k + 1))) := hide (by rw [HL.out, HD.out, sumL]; omega)
          have hlv : 0 ≤ l - v := by
            have hr := sumL_range (hi := 30) (xs := vs.drop (k + 1)) (fun x hx => by
              have hx := List.mem_of_mem_drop hx
              rw [← HVS.out] at hx
              unfold valsOf at hx
              obtain ⟨y, hy, rfl⟩ := List.mem_map.1 hx
              obtain ⟨i, hi⟩ := List.getElem?_of_mem hy
              have hyr := rangeOk_at HOR.out hi
              have hyn : y.toNat < xs.length := by omega
              have := spansOk_at HI.out (List.getElem?_eq_getElem hyn)
              simpa [hyn] using this)
            rw [HL2.out]
            exact hr.1
          have HG2 : Hid (togL xs ord = (s + (l - v)) + waitsGo (l - v) (vs.drop (k + 1))) := hide (by rw [HG.out, HD.out, waitsGo]; omega)
          have hw1 : IntKind.i64.wrap (l - v) = l - v := IntWalk.i64_in _ (by omega)
          have hw2 : IntKind.i64.wrap (s + (l - v)) = s + (l - v) := IntWalk.i64_in _ (by omega)
          have hz : (0 : Int) ≤ k := by omega
          have hz2 : (k : Int) < ord.length := by omega
          have hz3 : (0 : Int) ≤ q := by omega
          have hz4 : (q : Int) < xs.length := by omega
          clear ho hoe
          go_wp2_with fail
          go_roundw
          case rel => exact ⟨k + 1, s + (l - v), l - v, hlt, by go_num, rfl, rfl, by omega, by omega, HL2, hlv, by omega, HG2, trivial⟩
          case measure => simp [intOf]; omega
        · have H4 : Hid (togL xs ord = s) := hide (by rw [HG.out, List.drop_of_length_le (by rw [HVL.out]; omega), waitsGo]; omega)
          have hnl : ¬ (k : Int) < ord.length := by rw [HOL.out]; omega
          go_wp2_with fail
          go_ret
          exact ⟨by rw [H4.out]; rfl, hb2⟩

set_option maxHeartbeats 1000000 in
theorem specTogetherWaits_any (A B : Option Addr) (c d : Nat) (xs ord : List Int) (w : World) (hA : IntsAt w A xs) (hl : xs.length ≤ 1048576) (hB : IntsAt w B ord) (hm : ord.length ≤ 1048576) (hc : ord.length ≤ d) :
    Calls Tryd.prog 31 #[.slice A xs.length c, .slice B ord.length d] w fun e w' => e = .returned (.int .i64 (togL xs ord)) ∧ Below w.heap.size w w' := by
  cases hI : spansOk xs with
  | false =>
    have HI := hide hI
    have H3 : Hid (togL xs ord = -1) := hide (by unfold togL; rw [hI]; rfl)
    clear hI
    go_enter Tryd.func31, Tryd.ntmps31
    go_wp2_with fail
    refine (specSpansValid_any _ _ _ _ hA hl).mono ?_
    rintro e w1 ⟨rfl, hB1⟩
    rw [HI.out]
    go_wp2_with fail
    go_ret
    exact ⟨by rw [H3.out]; rfl, hB1⟩
  | true =>
    have HI := hide hI
    cases hO : orderOkL ord (xs.length : Int) with
    | false =>
      have HO := hide hO
      have H3 : Hid (togL xs ord = -1) := hide (by unfold togL; rw [hO]; simp)
      clear hI hO
      go_enter Tryd.func31, Tryd.ntmps31
      go_wp2_with fail
      refine (specSpansValid_any _ _ _ _ hA hl).mono ?_
      rintro e w1 ⟨rfl, hB1⟩
      rw [HI.out]
      go_wp2_with fail
      refine (specOrderOk_any _ _ _ _ _ (hB.below hB1) hm hc).mono ?_
      rintro e w2 ⟨rfl, hB2⟩
      rw [HO.out]
      have hb2 := next hB1 hB2
      go_wp2_with fail
      go_ret
      exact ⟨by rw [H3.out]; rfl, hb2⟩
    | true =>
      have HO := hide hO
      have h6 := spansOk_len hI
      obtain ⟨n, hn, hol, hor, -⟩ := orderOkL_parts hO
      obtain rfl : n = xs.length := by omega
      have HOR := hide hor
      have HOL := hide hol
      have HVL : Hid ((valsOf xs ord).length = xs.length) := hide (by rw [vals_len, hol])
      have H3 : Hid (togL xs ord = 0 + kGo 0 (valsOf xs ord)) := hide (by unfold togL; rw [hI, hO, if_pos (by rfl)]; omega)
      obtain ⟨vs, hvs⟩ : ∃ vs, valsOf xs ord = vs := ⟨_, rfl⟩
      have HVS := hide hvs
      rw [hvs] at H3 HVL
      clear hI hO hn hol hor hvs
      go_enter Tryd.func31, Tryd.ntmps31
      go_wp2_with fail
      refine (specSpansValid_any _ _ _ _ hA hl).mono ?_
      rintro e w1 ⟨rfl, hB1⟩
      rw [HI.out]
      go_wp2_with fail
      refine (specOrderOk_any _ _ _ _ _ (hB.below hB1) hm hc).mono ?_
      rintro e w2 ⟨rfl, hB2⟩
      rw [HO.out]
      have hb2 := next hB1 hB2
      have HA2 := hide (hA.below hb2)
      have HB2 := hide (hB.below hb2)
      go_wp2_with fail
      go_loopw [5, 6] (fun sv i wr => ∃ (k : Nat) (s : Int), k ≤ xs.length ∧ i = .int .i64 k ∧ sv = .int .i64 s ∧ 0 ≤ s ∧ s ≤ 180 * k ∧ Hid (togL xs ord = s + kGo k (vs.drop k)) ∧ wr = w2) (fun _ i _ => xs.length - (intOf i).toNat)
      case atStart => exact ⟨0, 0, Nat.zero_le _, rfl, rfl, by omega, by omega, H3, rfl⟩
      case round =>
        clear H3
        obtain ⟨k, s, hk, rfl, rfl, hs0, hs1, HG, rfl⟩ := hrel
        by_cases hlt : k < xs.length
        · have hlo : k < ord.length := by rw [HOL.out]; exact hlt
          obtain ⟨b1, off1, rfl, hbl1, hc1⟩ := HB2.out k ord[k] (List.getElem?_eq_getElem hlo)
          have ho := rangeOk_at HOR.out (List.getElem?_eq_getElem hlo)
          have hoe := List.getElem?_eq_getElem hlo
          generalize ord[k] = o at *
          obtain ⟨q, rfl⟩ : ∃ q : Nat, o = q := ⟨o.toNat, by omega⟩
          have hqn : q < xs.length := by omega
          obtain ⟨b2, off2, rfl, hbl2, hc2⟩ := HA2.out q xs[q] (List.getElem?_eq_getElem hqn)
          have hv := spansOk_at HI.out (List.getElem?_eq_getElem hqn)
          have HD : Hid (vs.drop k = xs[q] :: vs.drop (k + 1)) := hide (by rw [← HVS.out]; exact drop_of_at (vals_at hoe (List.getElem?_eq_getElem hqn)))
          generalize xs[q] = v at *
          obtain ⟨hv0, hv1⟩ := hv
          have hp0 : 0 ≤ (k : Int) * v := Int.mul_nonneg (by omega) hv0
          have hp1 : (k : Int) * v ≤ 6 * 30 := Int.mul_le_mul (by omega) hv1 hv0 (by omega)
          have HG2 : Hid (togL xs ord = (s + (k : Int) * v) + kGo ((k : Int) + 1) (vs.drop (k + 1))) := hide (by rw [HG.out, HD.out, kGo]; omega)
          have hw1 : IntKind.i64.wrap ((k : Int) * v) = (k : Int) * v := IntWalk.i64_in _ (by omega)
          have hw2 : IntKind.i64.wrap (s + (k : Int) * v) = s + (k : Int) * v := IntWalk.i64_in _ (by omega)
          have hz : (0 : Int) ≤ k := by omega
          have hz2 : (k : Int) < ord.length := by omega
          have hz3 : (0 : Int) ≤ q := by omega
          have hz4 : (q : Int) < xs.length := by omega
          clear ho hoe
          go_wp2_with fail
          go_roundw
          case rel => exact ⟨k + 1, s + (k : Int) * v, hlt, by go_num, rfl, by omega, by omega, by simpa using HG2, trivial⟩
          case measure => simp [intOf]; omega
        · have H4 : Hid (togL xs ord = s) := hide (by rw [HG.out, List.drop_of_length_le (by rw [HVL.out]; omega), kGo]; omega)
          have hnl : ¬ (k : Int) < ord.length := by rw [HOL.out]; omega
          go_wp2_with fail
          go_ret
          exact ⟨by rw [H4.out]; rfl, hb2⟩
end Go.Proofs.YteocmjffjinphaaDoor
