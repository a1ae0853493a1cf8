/- For every list of items, every list of numbers, every list of numbers, every plan the exact law of PlanOk answers true, and its arguments read as they did.
   Conditions: none. -/
import Derived.Test.YtigclhjkjhkbjabRead2
import Derived.Test.YtigclhjkjhkbjabExKit
import Derived.Test.YtigclhjkjhkbjabOk
import Derived.Test.YtigclhjkjhkbjabOk2
namespace Go.Proofs.Ytigclhjkjhkbjab
open Go.RowKit Go.ChangeShapes Go.WideShapes Go.ChangeAt

set_option maxRecDepth 100000 in
set_option maxHeartbeats 2000000 in
theorem exactPlanOk_any (A0 A1 A2 A3 B3 : Option Addr) (c0 c1 c2 c3 d3 : Nat) (x0 : List Item) (x1 x2 x3 y3 : List Int) (w : World) (hA0 : ItemsAt w A0 x0) (hl0 : x0.length ≤ 9223372036854775807) (hp0 : ∀ x ∈ x0, x.parts.length ≤ 9223372036854775807) (hA1 : IntsAt w A1 x1) (hl1 : x1.length ≤ 9223372036854775807) (hA2 : IntsAt w A2 x2) (hl2 : x2.length ≤ 9223372036854775807) (hA3 : IntsAt w A3 x3) (hl3 : x3.length ≤ 9223372036854775807) (hC3 : IntsAt w B3 y3) (hm3 : y3.length ≤ 9223372036854775807) :
    Calls Try.prog 7 #[.slice A0 x0.length c0, .slice A1 x1.length c1, .slice A2 x2.length c2, .agg #[.slice A3 x3.length c3, .slice B3 y3.length d3]] w fun e w' => e = .returned (.bool true) ∧ Below w.heap.size w w' := by
  have HP0 := hide hp0
  clear hp0
  by_cases hl1s : x1.length ≤ 1048576
  · by_cases hl2s : x2.length ≤ 1048576
    · by_cases h0z : szL 1048576 x0 < 0
      · go_enter Try.func7, Try.ntmps7
        go_wp2_with fail
        refine (szItemS_any _ _ _ _ (hA0.below (by go_grown)) hl0 HP0.out).mono ?_
        rintro e w1 ⟨rfl, hB1⟩
        have hb1 : Below w.heap.size w w1 := Below.trans (by go_grown) (hB1.mono (by simp))
        have hx3_1 : w1.cell? ⟨w.heap.size, 0, none⟩ = some (.slice A3 x3.length c3) ∧ w1.cell? ⟨w.heap.size, 1, none⟩ = some (.slice B3 y3.length d3) ∧ w.heap.size < w1.heap.size := box_keep (by simp) hB1
        go_wp2_with fail
        go_ret
        exact ⟨rfl, hb1⟩
      · obtain ⟨hl0s, hp0s⟩ := szL_le h0z
        have HQ0 := hide hp0s
        clear hp0s
        have hs0 : 0 ≤ szL 1048576 x0 := by omega
        have hs1 : szL 1048576 x0 ≤ 1048576 := szL_top x0
        by_cases h3z : szPl (szL 1048576 x0) x3.length y3.length < 0
        · go_enter Try.func7, Try.ntmps7
          go_wp2_with fail
          refine (szItemS_any _ _ _ _ (hA0.below (by go_grown)) hl0 HP0.out).mono ?_
          rintro e w1 ⟨rfl, hB1⟩
          have hb1 : Below w.heap.size w w1 := Below.trans (by go_grown) (hB1.mono (by simp))
          have hx3_1 : w1.cell? ⟨w.heap.size, 0, none⟩ = some (.slice A3 x3.length c3) ∧ w1.cell? ⟨w.heap.size, 1, none⟩ = some (.slice B3 y3.length d3) ∧ w.heap.size < w1.heap.size := box_keep (by simp) hB1
          have hy3 := hx3_1.1
          have hz3 := hx3_1.2.1
          go_wp2_with fail
          clear hy3 hz3
          have hy3 := hx3_1.1
          have hz3 := hx3_1.2.1
          refine (szPlan_any _ _ _ _ _ _ _ _ hs0 hs1 hl3 hm3).mono ?_
          rintro e w2 ⟨rfl, hB2⟩
          have hb2 := next hb1 hB2
          have hx3_2 := box_keep hx3_1 hB2
          clear hx3_1
          clear hy3 hz3
          go_wp2_with fail
          go_ret
          exact ⟨rfl, hb2⟩
        · obtain ⟨hl3s, hm3s⟩ := szPl_le hs1 h3z
          have hbb : (planOkL x0 x1 x2 x3 y3 != planOkL x0 x1 x2 x3 y3) = false := by simp
          go_enter Try.func7, Try.ntmps7
          go_wp2_with fail
          refine (szItemS_any _ _ _ _ (hA0.below (by go_grown)) hl0 HP0.out).mono ?_
          rintro e w1 ⟨rfl, hB1⟩
          have hb1 : Below w.heap.size w w1 := Below.trans (by go_grown) (hB1.mono (by simp))
          have hx3_1 : w1.cell? ⟨w.heap.size, 0, none⟩ = some (.slice A3 x3.length c3) ∧ w1.cell? ⟨w.heap.size, 1, none⟩ = some (.slice B3 y3.length d3) ∧ w.heap.size < w1.heap.size := box_keep (by simp) hB1
          have hy3 := hx3_1.1
          have hz3 := hx3_1.2.1
          go_wp2_with fail
          clear hy3 hz3
          have hy3 := hx3_1.1
          have hz3 := hx3_1.2.1
          refine (szPlan_any _ _ _ _ _ _ _ _ hs0 hs1 hl3 hm3).mono ?_
          rintro e w2 ⟨rfl, hB2⟩
          have hb2 := next hb1 hB2
          have hx3_2 := box_keep hx3_1 hB2
          clear hx3_1
          clear hy3 hz3
          go_wp2_with fail
          have hx3_d := box_drew hx3_2
          have HXO := hide hx3_2
          clear hx3_2
          go_region_held3 (fun W => W.cell? ⟨w.heap.size, 0, none⟩ = some (.slice A3 x3.length c3) ∧ W.cell? ⟨w.heap.size, 1, none⟩ = some (.slice B3 y3.length d3) ∧ w.heap.size < W.heap.size)
            (first | exact hx3_d | exact box_keep (hx3_d) hB3 | exact box_keep (box_keep (hx3_d) hB3) hB4 | exact box_keep (box_keep (box_keep (hx3_d) hB3) hB4) hB5 | exact box_keep (box_keep (box_keep (box_keep (hx3_d) hB3) hB4) hB5) hB6 | exact box_keep (box_keep (box_keep (box_keep (box_keep (hx3_d) hB3) hB4) hB5) hB6) hB7)
            (first | (go_at_call 15; (with_reducible refine (toItemS_any _ _ _ _ (hA0.below (hb2.drew)) hl0s HQ0.out).mono ?_); rintro e W3 ⟨rfl, hO0_3, hB3⟩) | (go_at_call 30; (with_reducible refine (toIntS_any _ _ _ _ (hA1.below (next (hb2.drew) hB3)) hl1s).mono ?_); rintro e W4 ⟨rfl, hO1_4, hB4⟩) | (go_at_call 30; (with_reducible refine (toIntS_any _ _ _ _ (hA2.below (next (next (hb2.drew) hB3) hB4)) hl2s).mono ?_); rintro e W5 ⟨rfl, hO2_5, hB5⟩) | (go_at_call 31; (with_reducible refine (toPlan_any _ _ _ _ _ _ _ (hA3.below (next (next (next (hb2.drew) hB3) hB4) hB5)) (hC3.below (next (next (next (hb2.drew) hB3) hB4) hB5)) hl3s hm3s).mono ?_); rintro e W6 ⟨g3_6, rfl, hg3_6, hO3_6, hU3_6, hB6⟩) | (go_at_call 29; refine (specPlanOk_any _ _ _ _ _ _ _ _ _ _ _ _ _ _ _ _ ((((hO0_3).below hB4).below hB5).below hB6).at_ hl0s HQ0.out (((hO1_4).below hB5).below hB6).at_ hl1s ((hO2_5).below hB6).at_ hl2s (hO3_6).at_ hl3s (hU3_6).at_ hm3s).mono ?_; rintro e W7 ⟨rfl, hB7⟩))
          have hb7 := next (next (next (next (next (hb2.drew) hB3) hB4) hB5) hB6) hB7
          have hx3_7 := box_keep (box_keep (box_keep (box_keep (box_keep (hx3_d) hB3) hB4) hB5) hB6) hB7
          clear hx3_d HXO hO0_3 hO1_4 hO2_5 hO3_6 hU3_6 hg3_6 hB3 hB4 hB5 hB6 hB7
          go_wp2_with fail
          refine (toItemS_any _ _ _ _ (hA0.below hb7) hl0s HQ0.out).mono ?_
          rintro e w8 ⟨rfl, hO0_8, hB8⟩
          have hb8 := next hb7 hB8
          have hx3_8 := box_keep hx3_7 hB8
          clear hx3_7
          go_wp2_with fail
          refine (toIntS_any _ _ _ _ (hA1.below hb8) hl1s).mono ?_
          rintro e w9 ⟨rfl, hO1_9, hB9⟩
          have hb9 := next hb8 hB9
          have hx3_9 := box_keep hx3_8 hB9
          have hO0_9 := hO0_8.below hB9
          clear hx3_8 hO0_8
          go_wp2_with fail
          refine (toIntS_any _ _ _ _ (hA2.below hb9) hl2s).mono ?_
          rintro e w10 ⟨rfl, hO2_10, hB10⟩
          have hb10 := next hb9 hB10
          have hx3_10 := box_keep hx3_9 hB10
          have hO0_10 := hO0_9.below hB10
          have hO1_10 := hO1_9.below hB10
          clear hx3_9 hO0_9 hO1_9
          go_wp2_with fail
          have hy3 := hx3_10.1
          have hz3 := hx3_10.2.1
          refine (toPlan_any _ _ _ _ _ _ _ (hA3.below hb10) (hC3.below hb10) hl3s hm3s).mono ?_
          rintro e w11 ⟨g3_11, rfl, hg3_11, hO3_11, hU3_11, hB11⟩
          clear hy3 hz3
          have hb11 := next hb10 hB11
          have hx3_11 := box_keep hx3_10 hB11
          have hO0_11 := hO0_10.below hB11
          have hO1_11 := hO1_10.below hB11
          have hO2_11 := hO2_10.below hB11
          clear hx3_10 hO0_10 hO1_10 hO2_10
          go_wp2_with fail
          have hBa11 : Below w11.heap.size w11 (w11.alloc (.cells #[.slice (some ⟨w10.heap.size + 3, 0, none⟩) x3.length x3.length, .slice (some ⟨g3_11, 0, none⟩) y3.length y3.length] 40)) := by go_grown
          have hb11a := next hb11 hBa11
          have hx3_11a := box_keep hx3_11 hBa11
          have hO0_11a := hO0_11.below hBa11
          have hO1_11a := hO1_11.below hBa11
          have hO2_11a := hO2_11.below hBa11
          have hO3_11a := hO3_11.below hBa11
          have hU3_11a := hU3_11.below hBa11
          clear hx3_11 hO0_11 hO1_11 hO2_11 hO3_11 hU3_11
          have hx3_11 := hx3_11a
          have hO0_11 := hO0_11a
          have hO1_11 := hO1_11a
          have hO2_11 := hO2_11a
          have hO3_11 := hO3_11a
          have hU3_11 := hU3_11a
          clear hx3_11a hO0_11a hO1_11a hO2_11a hO3_11a hU3_11a
          refine (implPlanOk_any _ _ _ _ _ _ _ _ _ _ _ _ _ _ _ _ hO0_11.at_ hl0s HQ0.out hO1_11.at_ hl1s hO2_11.at_ hl2s hO3_11.at_ hl3s hU3_11.at_ hm3s).mono ?_
          rintro e w12 ⟨rfl, hB12⟩
          have hb12 := next hb11a hB12
          have hx3_12 := box_keep hx3_11 hB12
          have hO0_12 := hO0_11.below hB12
          have hO1_12 := hO1_11.below hB12
          have hO2_12 := hO2_11.below hB12
          have hO3_12 := hO3_11.below hB12
          have hU3_12 := hU3_11.below hB12
          clear hx3_11 hO0_11 hO1_11 hO2_11 hO3_11 hU3_11
          have hq3_12 : w12.cell? ⟨w11.heap.size, 0, none⟩ = some (.slice (some ⟨w10.heap.size + 3, 0, none⟩) x3.length x3.length) ∧ w12.cell? ⟨w11.heap.size, 1, none⟩ = some (.slice (some ⟨g3_11, 0, none⟩) y3.length y3.length) ∧ w11.heap.size < w12.heap.size := box_keep (by simp) hB12
          go_wp2_with fail
          refine (toItemS_any _ _ _ _ (hA0.below hb12) hl0s HQ0.out).mono ?_
          rintro e w13 ⟨rfl, hV0_13, hB13⟩
          have hb13 := next hb12 hB13
          have hx3_13 := box_keep hx3_12 hB13
          have hO0_13 := hO0_12.below hB13
          have hO1_13 := hO1_12.below hB13
          have hO2_13 := hO2_12.below hB13
          have hO3_13 := hO3_12.below hB13
          have hU3_13 := hU3_12.below hB13
          have hq3_13 := box_keep hq3_12 hB13
          clear hx3_12 hO0_12 hO1_12 hO2_12 hO3_12 hU3_12 hq3_12
          go_wp2_with fail
          refine (eqItemS_same _ _ _ _ _ _ hO0_13.at_ hV0_13.at_ hl0s HQ0.out).mono ?_
          rintro e w14 ⟨rfl, hB14⟩
          have hb14 := next hb13 hB14
          have hx3_14 := box_keep hx3_13 hB14
          have hO1_14 := hO1_13.below hB14
          have hO2_14 := hO2_13.below hB14
          have hO3_14 := hO3_13.below hB14
          have hU3_14 := hU3_13.below hB14
          have hq3_14 := box_keep hq3_13 hB14
          clear hx3_13 hO1_13 hO2_13 hO3_13 hU3_13 hq3_13
          go_wp2_with fail
          refine (toIntS_any _ _ _ _ (hA1.below hb14) hl1s).mono ?_
          rintro e w15 ⟨rfl, hV1_15, hB15⟩
          have hb15 := next hb14 hB15
          have hx3_15 := box_keep hx3_14 hB15
          have hO1_15 := hO1_14.below hB15
          have hO2_15 := hO2_14.below hB15
          have hO3_15 := hO3_14.below hB15
          have hU3_15 := hU3_14.below hB15
          have hq3_15 := box_keep hq3_14 hB15
          clear hx3_14 hO1_14 hO2_14 hO3_14 hU3_14 hq3_14
          go_wp2_with fail
          refine (eqIntS_same _ _ _ _ _ _ hO1_15.at_ hV1_15.at_ hl1s).mono ?_
          rintro e w16 ⟨rfl, hB16⟩
          have hb16 := next hb15 hB16
          have hx3_16 := box_keep hx3_15 hB16
          have hO2_16 := hO2_15.below hB16
          have hO3_16 := hO3_15.below hB16
          have hU3_16 := hU3_15.below hB16
          have hq3_16 := box_keep hq3_15 hB16
          clear hx3_15 hO2_15 hO3_15 hU3_15 hq3_15
          go_wp2_with fail
          refine (toIntS_any _ _ _ _ (hA2.below hb16) hl2s).mono ?_
          rintro e w17 ⟨rfl, hV2_17, hB17⟩
          have hb17 := next hb16 hB17
          have hx3_17 := box_keep hx3_16 hB17
          have hO2_17 := hO2_16.below hB17
          have hO3_17 := hO3_16.below hB17
          have hU3_17 := hU3_16.below hB17
          have hq3_17 := box_keep hq3_16 hB17
          clear hx3_16 hO2_16 hO3_16 hU3_16 hq3_16
          go_wp2_with fail
          refine (eqIntS_same _ _ _ _ _ _ hO2_17.at_ hV2_17.at_ hl2s).mono ?_
          rintro e w18 ⟨rfl, hB18⟩
          have hb18 := next hb17 hB18
          have hx3_18 := box_keep hx3_17 hB18
          have hO3_18 := hO3_17.below hB18
          have hU3_18 := hU3_17.below hB18
          have hq3_18 := box_keep hq3_17 hB18
          clear hx3_17 hO3_17 hU3_17 hq3_17
          go_wp2_with fail
          have hx3_d := box_drew hx3_18
          have hq3_d := box_drew hq3_18
          go_region_held3 (fun W => (W.cell? ⟨w.heap.size, 0, none⟩ = some (.slice A3 x3.length c3) ∧ W.cell? ⟨w.heap.size, 1, none⟩ = some (.slice B3 y3.length d3) ∧ w.heap.size < W.heap.size) ∧ (W.cell? ⟨w11.heap.size, 0, none⟩ = some (.slice (some ⟨w10.heap.size + 3, 0, none⟩) x3.length x3.length) ∧ W.cell? ⟨w11.heap.size, 1, none⟩ = some (.slice (some ⟨g3_11, 0, none⟩) y3.length y3.length) ∧ w11.heap.size < W.heap.size))
            (first | exact ⟨hx3_d, hq3_d⟩ | exact ⟨box_keep hx3_d hB19, box_keep hq3_d hB19⟩ | exact ⟨box_keep (box_keep hx3_d hB19) hB20, box_keep (box_keep hq3_d hB19) hB20⟩)
            (first
              | (go_at_call 31; refine (toPlan_any _ _ _ _ _ _ _ (hA3.below hb18.drew) (hC3.below hb18.drew) hl3s hm3s).mono ?_; rintro e W19 ⟨g3_19, rfl, hg3_19, hV3_19, hY3_19, hB19⟩)
              | (go_at_call 33; refine (eqPlan_same _ _ _ _ _ _ _ _ _ _ _ ((OwnInts.below (w := w18.drew) hO3_18 hB19)).at_ ((OwnInts.below (w := w18.drew) hU3_18 hB19)).at_ hV3_19.at_ hY3_19.at_ hl3s hm3s).mono ?_; rintro e W20 ⟨rfl, hB20⟩))
          have hb20 := next (next hb18.drew hB19) hB20
          go_wp2_with fail
          go_ret
          exact ⟨rfl, hb20⟩
    · go_enter Try.func7, Try.ntmps7
      go_wp2_with fail
      go_ret
      exact ⟨rfl, by go_grown⟩
  · go_enter Try.func7, Try.ntmps7
    go_wp2_with fail
    go_ret
    exact ⟨rfl, by go_grown⟩

theorem exactPlanOk_contract (H : Type) (enc : TypeId × Value → H) (W : World) (base : Nat) (args : Array Value) (ds gs : List (DataW H)) (before : List MemPlace)
    (hval : ∀ (j : Nat) t v, Try.f7.params[j]? = some t → args[j]? = some v → Value.okWide Try.prog W .any base t v)
    (hW : DataW.Whole enc Try.prog Try.f7.params.toList Rows.fnExactPlanOkSpec.vars false W args.toList ds gs before) :
    Calls Try.prog 7 args W fun e W' => ∃ v, e = .returned v ∧ Rows.fnExactPlanOkSpec.post enc Try.prog Try.f7 false true false false W args v W' := by
  have hW' := hW
  obtain ⟨p, q, hA, hV, rfl, _, _⟩ := hW
  obtain ⟨rfl, rfl⟩ := trodVars_none hV
  rw [Try.params7] at hA
  obtain ⟨v0, vs0, d0, ds0, p0, q0, hargs, rfl, rfl, h0, r0⟩ := trodAll_cons hA
  obtain ⟨v1, vs1, d1, ds1, p1, q1, rfl, rfl, rfl, h1, r1⟩ := trodAll_cons r0
  obtain ⟨v2, vs2, d2, ds2, p2, q2, rfl, rfl, rfl, h2, r2⟩ := trodAll_cons r1
  obtain ⟨v3, vs3, d3, ds3, p3, q3, rfl, rfl, rfl, h3, r3⟩ := trodAll_cons r2
  obtain ⟨rfl, rfl, rfl⟩ := trodAll_nil r3
  obtain rfl : args = #[v0, v1, v2, v3] := by cases args; simp_all
  obtain ⟨a0, len0, cap0, rfl⟩ := okWide_slice Try.underlying22 (hval 0 22 v0 rfl rfl)
  obtain ⟨fuel0, hf0⟩ := h0
  obtain ⟨A0, c0, l0, hcs0, hI0, hl0, hp0⟩ := open_items hf0
  simp [Value.cells] at hcs0
  obtain ⟨rfl, rfl, rfl⟩ := hcs0
  obtain ⟨a1, len1, cap1, rfl⟩ := okWide_slice Try.underlying31 (hval 1 31 v1 rfl rfl)
  obtain ⟨fuel1, hf1⟩ := h1
  obtain ⟨A1, c1, l1, hcs1, hI1, hl1⟩ := open_numbers hf1
  simp [Value.cells] at hcs1
  obtain ⟨rfl, rfl, rfl⟩ := hcs1
  obtain ⟨a2, len2, cap2, rfl⟩ := okWide_slice Try.underlying31 (hval 2 31 v2 rfl rfl)
  obtain ⟨fuel2, hf2⟩ := h2
  obtain ⟨A2, c2, l2, hcs2, hI2, hl2⟩ := open_numbers hf2
  simp [Value.cells] at hcs2
  obtain ⟨rfl, rfl, rfl⟩ := hcs2
  obtain ⟨A3, c3, l3, B3, e3, m3, rfl, hI3, hJ3, hl3, hm3⟩ := open_plan (hval 3 36 v3 rfl rfl) h3
  refine (exactPlanOk_any _ _ _ _ _ _ _ _ _ _ _ _ _ _ _ W hI0 hl0 hp0 hI1 hl1 hI2 hl2 hI3 hl3 hJ3 hm3).mono fun e W' ⟨he, hb⟩ => ?_
  subst he
  have hts : ∀ t ∈ Try.f7.params.toList, Try.prog.readableRec t = true ∧ t < Try.prog.types.size := by
    rw [Try.params7]
    intro t ht
    simp only [List.mem_cons, List.not_mem_nil, or_false] at ht
    rcases ht with rfl | rfl | rfl | rfl <;> exact ⟨by kernel_rfl, of_decide_eq_true (by kernel_rfl)⟩
  exact ⟨_, rfl, post_true hW' rfl rfl Try.underlying4 hts rfl rfl rfl hb⟩

set_option maxRecDepth 100000 in
theorem exactPlanOk_holds : Rows.FnExactPlanOkSaid :=
  OpenClaim.holds_of_wide 7 Try.f7 rfl rfl rfl rfl rfl rfl rfl ⟨rfl, rfl, rfl, rfl, rfl⟩ rfl rfl rfl rfl rfl (by kernel_rfl) Try.func7 (by kernel_rfl)
    (of_decide_eq_true (by kernel_rfl)) (by unfold Func.isWrapper; first | (rw [if_pos (by decide +kernel)]; kernel_rfl) | (rw [if_neg (by decide +kernel)]; exact ⟨rfl, rfl⟩))
    (fun os started H enc _ => returnsInHanded_of_change (C := Try.checked) own started (by kernel_rfl) Try.func7
      (ChangeSpec.witness6 (enc := enc) (C := Try.checked) false ⟨#[], #[.slice none 0 0, .slice none 0 0, .slice none 0 0, .agg #[.slice none 0 0, .slice none 0 0]], []⟩ 8 (by kernel_rfl) (by kernel_rfl) (by kernel_rfl) (by kernel_rfl))
      (fun W base args ds gs before hval hW _ _ => exactPlanOk_contract H enc W base args ds gs before hval hW))
end Go.Proofs.Ytigclhjkjhkbjab
