/- For all drawn bytes the law of TogetherBest answers true, and its argument reads as it did.
   Conditions: none. -/
import Derived.Test.YteocmjffjinphaaDoorLawKit
import Derived.Test.YteocmjffjinphaaDoorDrawSpans
import Derived.Test.YteocmjffjinphaaDoorCook7
import Derived.Test.YteocmjffjinphaaDoorOrderMath
import Derived.Test.YteocmjffjinphaaDoorLists
namespace Go.Proofs.YteocmjffjinphaaDoor
open Go.RowKit Go.ChangeShapes Go.WideShapes Go.ChangeAt

theorem gf_pair {xs : List Int} {j : Nat} (h : j + 1 < (gfL xs).length) : ∃ (p q : Nat) (x y : Int), (gfL xs)[j]? = some (p : Int) ∧ (gfL xs)[j + 1]? = some (q : Int) ∧ xs[p]? = some x ∧ xs[q]? = some y ∧ y ≤ x ∧ p < xs.length ∧ q < xs.length := by
  have h1 := gfL_mem.1 (List.getElem_mem (show j < (gfL xs).length by omega))
  have h2 := gfL_mem.1 (List.getElem_mem h)
  have hs := List.pairwise_iff_getElem.1 (sortBy_sorted (negKey xs) xs.length) j (j + 1) (show j < (gfL xs).length by omega) h (by omega)
  obtain ⟨p, hp⟩ : ∃ p : Nat, (gfL xs)[j] = p := ⟨(gfL xs)[j].toNat, by omega⟩
  obtain ⟨q, hq⟩ : ∃ q : Nat, (gfL xs)[j + 1] = q := ⟨(gfL xs)[j + 1].toNat, by omega⟩
  rw [hp] at h1
  rw [hq] at h2
  have hpl : p < xs.length := by omega
  have hql : q < xs.length := by omega
  have hs' : lexLt (negKey xs) (p : Int) (q : Int) := by
    rw [← hp, ← hq]
    exact hs
  refine ⟨p, q, xs[p], xs[q], by rw [List.getElem?_eq_getElem (by omega), hp], by rw [List.getElem?_eq_getElem h, hq], List.getElem?_eq_getElem hpl, List.getElem?_eq_getElem hql, ?_, hpl, hql⟩
  unfold lexLt negKey at hs'
  simp only [Int.toNat_natCast, List.getD_eq_getElem?_getD, List.getElem?_eq_getElem hpl, List.getElem?_eq_getElem hql, Option.getD_some] at hs'
  omega

set_option maxHeartbeats 1000000 in
theorem drawTogetherBest_any (A : Option Addr) (c m : Nat) (w : World) (hB : BytesIn w A m) (hm : m ≤ 9223372036854775807) (hc : m ≤ c) (hc2 : c ≤ 9223372036854775807) :
    Calls Tryd.prog 34 #[.slice A m c] w (DrawnIG 100 7 w) := by
  go_enter Tryd.func34, Tryd.ntmps34
  go_wp2_with fail
  refine (open_any A c m w hB hm hc hc2).mono ?_
  rintro e w1 ⟨rfl, hR1, hb1⟩
  have hz1 := hb1.size
  go_wp2_with fail
  refine (l20Spans_any w.heap.size 0 9 _ hR1 (by omega) (by omega)).mono ?_
  rintro e w2 ⟨ls, g, c2, rfl, hS2, hl, hR2, hg2, hX⟩
  have hb2 : Below w.heap.size w w2 := hb1.grown hg2 hz1 (fun j hj => by injection hj with hj; omega)
  have HI := hide hS2.ints
  have HX := hide hX
  have hgl := (IntSl.capI hS2).2.2.2.2
  clear hS2 hg2 hX
  go_wp2_with fail
  refine bodyPost_ret (results_tmp rfl _ _ _) rfl ⟨ls, g, c2, rfl, HI.out, hl, hgl, HX, hb2⟩

set_option maxRecDepth 100000 in
set_option maxHeartbeats 4000000 in
theorem lawTogetherBest_any (A : Option Addr) (c m : Nat) (w : World) (hB : BytesIn w A m) (hc : m ≤ c) (hc2 : c ≤ 9223372036854775807) :
    Calls Tryd.prog 8 #[.slice A m c] w fun e w' => e = .returned (.bool true) ∧ Below w.heap.size w w' := by
  by_cases hlen : (1048576 : Int) < m
  · go_enter Tryd.func8, Tryd.ntmps8
    go_wp2_with fail
    go_ret
    exact ⟨rfl, by go_grown⟩
  · go_enter Tryd.func8, Tryd.ntmps8
    go_wp2_with fail
    refine (drawTogetherBest_any A c m w hB (by omega) hc hc2).mono ?_
    rintro e w1 ⟨xs, g, c1, rfl, hI, hl, hgl, -, hb1⟩
    have hl' : xs.length ≤ 1048576 := by omega
    have HI1 := hide hI
    obtain ⟨T, HT⟩ : ∃ T, Hid (togBestL xs = T) := ⟨_, hide rfl⟩
    have hTl : T.length ≤ 1048576 := by
      rw [← HT.out]
      exact Nat.le_trans (togBestL_len _) hl'
    clear hI
    go_wp2_with fail
    refine (implTogetherBest_any ⟨g, 0, none⟩ _ _ _ HI1.out hl' hgl).mono ?_
    rintro e w2 ⟨v, rfl, hv, hB2⟩
    rw [HT.out] at hv
    obtain ⟨A2, k2, rfl, hI2, -⟩ := hv.form
    have hb2 := next hb1 hB2
    have HI2 := hide (HI1.out.below hB2)
    have HT2 := hide hI2
    clear hB2 hv hI2
    go_wp2_with fail
    refine (specTogetherBest_any _ _ _ _ HI2.out hl').mono ?_
    rintro e w3 ⟨v, rfl, hv, hB3⟩
    rw [HT.out] at hv
    obtain ⟨A3, k3, rfl, hI3, -⟩ := hv.form
    have hb3 := next hb2 hB3
    have HI3 := hide (HI2.out.below hB3)
    have HT3 := hide (HT2.out.below hB3)
    have HU3 := hide hI3
    clear hB3 hv hI3
    go_wp2_with fail
    refine (sameInts_same _ _ _ _ _ _ HT3.out HU3.out hTl).mono ?_
    rintro e w4 ⟨rfl, hB4⟩
    have hb4 := next hb3 hB4
    have HI4 := hide (HI3.out.below hB4)
    have HT4 := hide (HT3.out.below hB4)
    clear hB4
    go_wp2_with fail
    refine (specSpansValid_any _ _ _ _ HI4.out hl').mono ?_
    rintro e w5 ⟨rfl, hB5⟩
    have hb5 := next hb4 hB5
    have HI5 := hide (HI4.out.below hB5)
    have HT5 := hide (HT4.out.below hB5)
    clear hB5 HI1 HI2 HI3 HI4 HT2 HT3 HT4 HU3
    cases hok : spansOk xs with
    | false =>
      have hT0 : T = [] := by rw [← HT.out]; unfold togBestL; rw [hok]; rfl
      subst hT0
      go_wp2_with fail
      refine (alive_any _).mono ?_
      rintro e w6 ⟨rfl, hB6⟩
      go_wp2_with fail
      go_ret
      exact ⟨rfl, next hb5 hB6⟩
    | true =>
      have hT : T = gfL xs := by rw [← HT.out]; unfold togBestL; rw [hok, if_pos rfl]
      have HPR := hide (fun j (h : j + 1 < T.length) => gf_pair (xs := xs) (by rw [← hT]; exact h))
      rw [← hT] at HPR
      have HOO : Hid (orderOkL T (xs.length : Int) = true) := hide (by rw [hT]; exact gfL_ok xs)
      have HTE := hide hT
      clear hT hok
      go_wp2_with fail
      go_loopw [5] (fun iv wr => ∃ j : Nat, (j = 0 ∨ j < T.length) ∧ iv = .int .i64 ((j : Int) + 1) ∧ Below w5.heap.size w5 wr) (fun iv _ => T.length + 1 - (intOf iv).toNat)
      case atStart => exact ⟨0, .inl rfl, rfl, Below.refl _ _⟩
      case round =>
        obtain ⟨j, hj, rfl, hd⟩ := hrel
        have hb := next hb5 hd
        have hsz := hd.size
        by_cases hlt : j + 1 < T.length
        · obtain ⟨p, q, x, y, hp, hq, hx, hy, hxy, hpl, hql⟩ := HPR.out j hlt
          obtain ⟨b, off, rfl, hbl, hc1⟩ := (HT5.out.below hd) j _ hp
          obtain ⟨b', off', hDD, hbl', hc2⟩ := (HT5.out.below hd) (j + 1) _ hq
          injection hDD with hDD
          injection hDD with e1 e2
          subst e1 e2
          obtain ⟨b2, off2, hDD, hbl2, hc3⟩ := (HI5.out.below hd) p _ hx
          injection hDD with hDD
          injection hDD with e1 e2
          subst e1 e2
          obtain ⟨b3, off3, hDD, hbl3, hc4⟩ := (HI5.out.below hd) q _ hy
          injection hDD with hDD
          injection hDD with e1 e2
          subst e1 e2
          rw [Nat.zero_add] at hc3 hc4
          have hdec : decide (x < y) = false := decide_eq_false (by omega)
          have hy0 : (0 : Int) ≤ (j : Int) + 1 := by omega
          have hy9 : (0 : Int) ≤ j := by omega
          have hy8 : (j : Int) < T.length := by omega
          have hwj : IntKind.i64.wrap ((j : Int) + 1 - 1) = j := (IntWalk.i64_in _ (by omega)).trans (by omega)
          have hwk : IntKind.i64.wrap (j : Int) = j := IntWalk.i64_in _ (by omega)
          have htj : ((j : Int) + 1).toNat = j + 1 := by omega
          have hy1 : (j : Int) + 1 < T.length := by omega
          have hy2 : (0 : Int) ≤ p := by omega
          have hy3 : (p : Int) < xs.length := by omega
          have hy4 : (0 : Int) ≤ q := by omega
          have hy5 : (q : Int) < xs.length := by omega
          clear hp hq hx hy hpl hql hxy
          go_wp2_with fail
          go_quiet (fail)
          go_wp2_with fail
          go_roundw
          case rel => exact ⟨j + 1, .inr hlt, by go_num, below_drewN hd _⟩
          case measure => simp [intOf]; omega
        · have hy1 : ¬ (j : Int) + 1 < T.length := by omega
          have HT6 := hide (HT5.out.below hd)
          go_wp2_with fail
          refine (implOrderOk_any _ _ _ _ _ HT6.out hTl).mono ?_
          rintro e w6 ⟨rfl, hB6⟩
          rw [HOO.out]
          go_wp2_with fail
          go_ret
          exact ⟨rfl, next hb hB6⟩
end Go.Proofs.YteocmjffjinphaaDoor
