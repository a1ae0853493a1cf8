/- For all drawn bytes the law of TogetherWaits answers true, and its argument reads as it did.
   Conditions: none. -/
import Derived.Test.YteocmjffjinphaaDoorLawKit
import Derived.Test.YteocmjffjinphaaDoorDrawTog
import Derived.Test.YteocmjffjinphaaDoorDrawSum
import Derived.Test.YteocmjffjinphaaDoorOrderMath
import Derived.Test.YteocmjffjinphaaDoorCook7
namespace Go.Proofs.YteocmjffjinphaaDoor
open Go.RowKit Go.ChangeShapes Go.WideShapes Go.ChangeAt

theorem tog_said {xs os : List Int} (hv2 : (spansOk xs && orderOkL os (xs.length : Int)) = true) : ∃ x y z s n : Int, togL xs os = x ∧ togL xs os.reverse = y ∧ togL xs (togBestL xs) = z ∧ sumW xs = s ∧ 0 ≤ x ∧ 0 ≤ y ∧ x ≤ 900 ∧ y ≤ 900 ∧ 0 ≤ z ∧ z ≤ x ∧ 0 ≤ s ∧ s ≤ 180 ∧ max ((xs.length : Int) - 1) 0 = n ∧ 0 ≤ n ∧ n ≤ 5 ∧ x + y = s * n ∧ 0 ≤ s * n ∧ s * n ≤ 900 := by
  · have hv := hv2
    simp only [Bool.and_eq_true] at hv
    have hs := hv.1
    unfold spansOk at hs
    simp only [Bool.and_eq_true, decide_eq_true_eq, range_all] at hs
    have hnn : ∀ {ord : List Int}, ∀ v ∈ valsOf xs ord, 0 ≤ v := fun {ord} v hv' => by
      unfold valsOf at hv'
      obtain ⟨o, _, rfl⟩ := List.mem_map.1 hv'
      by_cases ho : o.toNat < xs.length
      · have := hs.2 xs[o.toNat] (List.getElem_mem ho)
        simp [ho]
        omega
      · simp [ho]
    have hrev : (spansOk xs && orderOkL os.reverse (xs.length : Int)) = true := by rw [orderOkL_rev]; exact hv2
    have hbest : (spansOk xs && orderOkL (gfL xs) (xs.length : Int)) = true := by rw [hv.1, gfL_ok]; rfl
    have hbl : togBestL xs = gfL xs := by unfold togBestL; rw [if_pos hv.1]
    have hsum := vals_sum hv.2
    have hboth := kGo_both (valsOf xs os)
    have hlen : (valsOf xs os).length = xs.length := by
      rw [vals_len]
      have := (orderOkL_iff.1 hv.2).1
      omega
    have hsl := sumL_range (xs := xs) (hi := 30) hs.2
    have hsw : sumW xs = sumL xs := sumW_plain hs.2 (by omega) (by omega)
    have ha := kGo_nonneg (vs := valsOf xs os) (k := 0) (hnn (ord := os)) (by omega)
    have hb := kGo_nonneg (vs := (valsOf xs os).reverse) (k := 0) (fun v hv' => hnn (ord := os) v (List.mem_reverse.1 hv')) (by omega)
    have hc := kGo_nonneg (vs := valsOf xs (gfL xs)) (k := 0) (hnn (ord := gfL xs)) (by omega)
    have hle := kGo_least _ _ (order_perm hv.2) (gfL_desc xs)
    rw [hsum, hlen] at hboth
    have h6 := hs.1
    obtain ⟨n, hn⟩ : ∃ n, max ((xs.length : Int) - 1) 0 = n := ⟨_, rfl⟩
    have hn0 : 0 ≤ n ∧ n ≤ 5 := by omega
    have hprod : sumL xs * ((xs.length : Int) - 1) = sumL xs * n := by
      by_cases h0 : xs.length = 0
      · have : xs = [] := List.eq_nil_of_length_eq_zero h0
        subst this
        simp [sumL]
      · have : (xs.length : Int) - 1 = n := by omega
        rw [this]
    have hsn0 : 0 ≤ sumL xs * n := Int.mul_nonneg hsl.1 hn0.1
    have hsn1 : sumL xs * n ≤ 180 * 5 := Int.mul_le_mul (by omega) hn0.2 hn0.1 (by omega)
    refine ⟨kGo 0 (valsOf xs os), kGo 0 (valsOf xs os).reverse, kGo 0 (valsOf xs (gfL xs)), sumL xs, n, ?_, ?_, ?_, hsw, ha, hb, by omega, by omega, hc, hle, hsl.1, by omega, hn, hn0.1, hn0.2, by omega, hsn0, by omega⟩
    · unfold togL; rw [if_pos hv2]
    · unfold togL; rw [if_pos hrev, valsOf_rev]
    · rw [hbl]; unfold togL; rw [if_pos hbest]

set_option maxRecDepth 100000 in
set_option maxHeartbeats 4000000 in
theorem lawTogetherWaits_any (A : Option Addr) (c m : Nat) (w : World) (hB : BytesIn w A m) (hc : m ≤ c) (hc2 : c ≤ 9223372036854775807) :
    Calls Tryd.prog 7 #[.slice A m c] w fun e w' => e = .returned (.bool true) ∧ Below w.heap.size w w' := by
  by_cases hlen : (1048576 : Int) < m
  · go_enter Tryd.func7, Tryd.ntmps7
    go_wp2_with fail
    go_ret
    exact ⟨rfl, by go_grown⟩
  · go_enter Tryd.func7, Tryd.ntmps7
    go_wp2_with fail
    refine (drawTogetherWaits_any A c m w hB (by omega) hc hc2).mono ?_
    rintro e w1 ⟨xs, os, gx, c1, go, c2, rfl, hI, hJ, hl, hol, hoc, hgl, hb1⟩
    have hl' : xs.length ≤ 1048576 := by omega
    have ho' : os.length ≤ 1048576 := by omega
    have HI := hide hI
    have HJ := hide hJ
    obtain ⟨x, HX⟩ : ∃ x, Hid (togL xs os = x) := ⟨_, hide rfl⟩
    have hxx : (x != x) = false := by simp
    clear hI hJ
    go_wp2_with fail
    refine (implTogetherWaits_any _ _ _ _ _ _ _ HI.out hl' HJ.out ho').mono ?_
    rintro e w2 ⟨rfl, hB2⟩
    rw [HX.out]
    have hb2 := next hb1 hB2
    have hz2 := hB2.size
    have HI2 := hide (HI.out.below hB2)
    have HJ2 := hide (HJ.out.below hB2)
    clear hB2 HI HJ
    go_wp2_with fail
    refine (specTogetherWaits_any _ _ _ _ _ _ _ HI2.out hl' HJ2.out ho' hoc).mono ?_
    rintro e w3 ⟨rfl, hB3⟩
    rw [HX.out]
    have hb3 := next hb2 hB3
    have hz3 := hB3.size
    have HI3 := hide (HI2.out.below hB3)
    have HJ3 := hide (HJ2.out.below hB3)
    clear hB3 HI2 HJ2
    cases hv : (spansOk xs && orderOkL os (xs.length : Int)) with
    | false =>
      have hx : x = -1 := by rw [← HX.out]; unfold togL; rw [if_neg (by rw [hv]; decide)]
      subst hx
      go_wp2_with fail
      refine (alive_any _).mono ?_
      rintro e w5 ⟨rfl, hB5⟩
      go_wp2_with fail
      go_ret
      exact ⟨rfl, next hb3 hB5⟩
    | true =>
    obtain ⟨x', y, z, s, n, hx', hy', hz', hs', hx0, hy0, hx9, hy9, hz0, hzx, hs0, hs1, hn, hn0, hn5, hxy, hsn0, hsn9⟩ := tog_said hv
    obtain rfl : x = x' := by rw [← HX.out, hx']
    obtain ⟨Z, hZ⟩ : ∃ Z, s * n = Z := ⟨_, rfl⟩
    rw [hZ] at hxy hsn0 hsn9
    have hwZ : IntKind.i64.wrap (s * n) = Z := (IntWalk.i64_in _ (by omega)).trans hZ
    have HY : Hid (togL xs os.reverse = y) := hide hy'
    have HZ : Hid (togL xs (togBestL xs) = z) := hide hz'
    have HSW : Hid (sumW xs = s) := hide hs'
    have hneg : ¬ x < 0 := by omega
    have hxyz : (x + y == Z) = true := by rw [hxy]; simp
    have hbl := togBestL_len xs
    clear hv hx' hy' hz' hs' hZ
    have HS0 : Hid (IntSl (w3.alloc (.cells #[] 3)) w3.heap.size (.slice (some ⟨w3.heap.size, 0, none⟩) 0 0) []) := hide (World.ownsRow_lit w3 #[] 0 (Nat.le_refl _) (by unfold maxLen; omega) rfl)
    go_wp2_with fail
    go_loopw [6, 7] (fun pv iv wr => ∃ (k L g cc : Nat) (P : List Int), k ≤ os.length ∧ iv = .int .i64 ((k : Int) - 1) ∧ pv = .slice (some ⟨g, 0, none⟩) L cc ∧ Hid (P.length = L ∧ P = (os.drop k).reverse) ∧ IntSl wr w3.heap.size (.slice (some ⟨g, 0, none⟩) L cc) P ∧ Below w3.heap.size w3 wr) (fun _ iv _ => ((intOf iv) + 1).toNat)
    case atStart => exact ⟨os.length, 0, w3.heap.size, 0, [], Nat.le_refl _, rfl, rfl, hide ⟨rfl, by simp⟩, HS0.out, by go_grown⟩
    case round =>
      obtain ⟨k, L, g, cc, P, hk, rfl, rfl, HLK, hS, hd⟩ := hrel
      have HS := hide hS
      have hb := next hb3 hd
      have hsz := hd.size
      have HLO := hide (World.ownsRow.lt HS.out)
      have hPl : P.length ≤ 1048576 := by rw [HLK.out.2, List.length_reverse, List.length_drop]; omega
      clear hS
      by_cases hlt : 0 < k
      · obtain ⟨j, rfl⟩ : ∃ j, k = j + 1 := ⟨k - 1, by omega⟩
        have hjl : j < os.length := by omega
        obtain ⟨b, off, hDD, hbl, hc1⟩ := (HJ3.out.below hd) j os[j] (List.getElem?_eq_getElem hjl)
        injection hDD with hDD
        injection hDD with e1 e2
        subst e1 e2
        rw [Nat.zero_add] at hc1
        have HPS : Hid (P ++ [os[j]] = (os.drop j).reverse) := hide (by rw [HLK.out.2, List.drop_eq_getElem_cons hjl, List.reverse_cons])
        have hkj : ((j + 1 : Nat) : Int) - 1 = j := by omega
        have hy : (0 : Int) ≤ j := by omega
        have hy2 : (j : Int) < os.length := by omega
        generalize os[j] = xj at *
        rw [hkj]
        clear hkj
        go_wp2_with (at_builtin; refine wpList_wantedI (by rfl) (wp_push_intI _ _ (by rfl) w3.heap.size (.slice (some ⟨g, 0, none⟩) L cc) P (by rfl) (World.ownsRow.alloc HS.out _) wr.heap.size xj (by rfl) (heap_alloc_new wr _) hPl (by simp; omega) ?_); intro g' cap w5 hown hgrow; have HOW := hide hown; have HD5 : Hid (Below w3.heap.size w3 w5) := hide ((show Below w3.heap.size w3 (wr.alloc (.cells #[.int .i64 xj] 3)) from by go_grown).grown hgrow (by simp; omega) (fun k hk => (HLO.out k hk).1)); clear hown hgrow)
        go_roundw
        case rel => exact ⟨j, P.length + 1, g', cap, _, by omega, by go_num, rfl, hide ⟨by simp, HPS.out⟩, HOW.out, HD5.out⟩
        case measure => simp [intOf] <;> omega
      · obtain rfl : k = 0 := by omega
        have HPI := hide (IntSl.ints HS.out)
        have HPR : Hid (P = os.reverse) := hide (by rw [HLK.out.2, List.drop_zero])
        have HPL : Hid (P.length = L) := hide HLK.out.1
        have hz0 : ((0 : Nat) : Int) - 1 = -1 := rfl
        rw [hz0]
        clear hz0 HLK
        have HI4 := hide (HI3.out.below hd)
        go_wp2_with fail
        refine (implTogetherBest_any ⟨gx, 0, none⟩ _ _ _ HI4.out hl' (by show gx < _; omega)).mono ?_
        rintro e w5 ⟨v, rfl, hv, hB5⟩
        obtain ⟨A5, k5, rfl, hT5, -⟩ := hv.form
        have hb5 := next hb hB5
        have HI5 := hide (HI4.out.below hB5)
        have HP5 := hide (HPI.out.below hB5)
        have HT5 := hide hT5
        clear hB5 hv hT5 HI4 HPI
        go_wp2_with fail
        refine (implTogetherWaits_any _ _ _ _ _ _ _ HI5.out hl' HT5.out (by omega)).mono ?_
        rintro e w6 ⟨rfl, hB6⟩
        rw [HZ.out]
        have hb6 := next hb5 hB6
        have HI6 := hide (HI5.out.below hB6)
        have HP6 := hide (HP5.out.below hB6)
        have HCY : Hid (Calls Tryd.prog 30 #[.slice (some ⟨gx, 0, none⟩) xs.length c1, .slice (some ⟨g, 0, none⟩) L cc] w6 fun e w' => e = .returned (.int .i64 y) ∧ Below w6.heap.size w6 w') := hide (by
          have := implTogetherWaits_any (some ⟨gx, 0, none⟩) (some ⟨g, 0, none⟩) c1 cc xs P w6 HI6.out hl' HP6.out hPl
          rw [HPL.out, HPR.out, HY.out] at this
          exact this)
        clear hB6 HI5 HP5 HP6
        go_wp2_with fail
        refine HCY.out.mono ?_
        rintro e w7 ⟨rfl, hB7⟩
        have hb7 := next hb6 hB7
        have HI7 := hide (HI6.out.below hB7)
        clear hB7 HI6 HCY
        go_wp2_with fail
        refine (lawSumI_any _ _ _ _ HI7.out hl').mono ?_
        rintro e w8 ⟨rfl, rfl⟩
        rw [HSW.out]
        go_wp2_with fail
        go_ret
        exact ⟨rfl, hb7⟩
end Go.Proofs.YteocmjffjinphaaDoor
