/- For every list of lots, every list of numbers, every table the exact law of UseOk answers true, and its arguments read as they did.
   Conditions: none. -/
import Derived.Test.YtecmghoklleheabRead2
import Derived.Test.YtecmghoklleheabExKit
import Derived.Test.YtecmghoklleheabUseM
namespace Go.Proofs.Ytecmghoklleheab
open Go.RowKit Go.ChangeShapes Go.WideShapes Go.ChangeAt

set_option maxRecDepth 100000 in
set_option maxHeartbeats 2000000 in
theorem exactUseOk_any (A0 A1 A2 : Option Addr) (c0 c1 c2 : Nat) (x0 : List Lot) (x1 : List Int) (x2 : List (List Int)) (w : World) (hA0 : LotsAt w A0 x0) (hl0 : x0.length ≤ 9223372036854775807) (hA1 : IntsAt w A1 x1) (hl1 : x1.length ≤ 9223372036854775807) (hA2 : RowsAt w A2 x2) (hl2 : x2.length ≤ 9223372036854775807) (hp2 : ∀ x ∈ x2, x.length ≤ 9223372036854775807) :
    Calls Try.prog 9 #[.slice A0 x0.length c0, .slice A1 x1.length c1, .slice A2 x2.length c2] w fun e w' => e = .returned (.bool true) ∧ Below w.heap.size w w' := by
  have HP2 := hide hp2
  clear hp2
  by_cases hl1s : x1.length ≤ 1048576
  · by_cases h0z : szP 1048576 x0.length < 0
    · go_enter Try.func9, Try.ntmps9
      go_wp2_with fail
      refine (szLotS_b _ _ _ _ _ (by omega) (by omega) hl0).mono ?_
      rintro e w1 ⟨rfl, hB1⟩
      have hb1 := hB1
      go_wp2_with fail
      go_ret
      exact ⟨rfl, hb1⟩
    · have hl0s : x0.length ≤ 1048576 := by have := szP_le h0z; omega
      have hs0 : 0 ≤ szP 1048576 x0.length := by omega
      have hs1 : szP 1048576 x0.length ≤ 1048576 := (szP_range 1048576 x0.length (by omega)).2
      by_cases h2z : szRows (szP 1048576 x0.length) x2 < 0
      · go_enter Try.func9, Try.ntmps9
        go_wp2_with fail
        refine (szLotS_b _ _ _ _ _ (by omega) (by omega) hl0).mono ?_
        rintro e w1 ⟨rfl, hB1⟩
        have hb1 := hB1
        go_wp2_with fail
        refine (szIntSS_any _ _ _ _ _ (hA2.below hb1) hs0 hs1 hl2 HP2.out).mono ?_
        rintro e w2 ⟨rfl, hB2⟩
        have hb2 := next hb1 hB2
        go_wp2_with fail
        go_ret
        exact ⟨rfl, hb2⟩
      · obtain ⟨hl2s, hp2s⟩ := szRows_le hs1 h2z
        have HQ2 := hide hp2s
        clear hp2s
        have hbb : (useOkL x0 x1 x2 != useOkL x0 x1 x2) = false := by simp
        go_enter Try.func9, Try.ntmps9
        go_wp2_with fail
        refine (szLotS_b _ _ _ _ _ (by omega) (by omega) hl0).mono ?_
        rintro e w1 ⟨rfl, hB1⟩
        have hb1 := hB1
        go_wp2_with fail
        refine (szIntSS_any _ _ _ _ _ (hA2.below hb1) hs0 hs1 hl2 HP2.out).mono ?_
        rintro e w2 ⟨rfl, hB2⟩
        have hb2 := next hb1 hB2
        go_wp2_with fail
        refine (toLotS_any _ _ _ _ (hA0.below hb2) hl0s).mono ?_
        rintro e w3 ⟨rfl, hO0_3, hB3⟩
        have hb3 := next hb2 hB3
        go_wp2_with fail
        refine (toIntS_any _ _ _ _ (hA1.below hb3) hl1s).mono ?_
        rintro e w4 ⟨rfl, hO1_4, hB4⟩
        have hb4 := next hb3 hB4
        have hO0_4 := hO0_3.below hB4
        clear hO0_3
        go_wp2_with fail
        refine (toIntSS_any _ _ _ _ (hA2.below hb4) hl2s HQ2.out).mono ?_
        rintro e w5 ⟨rfl, hO2_5, hB5⟩
        have hb5 := next hb4 hB5
        have hO0_5 := hO0_4.below hB5
        have hO1_5 := hO1_4.below hB5
        clear hO0_4 hO1_4
        go_wp2_with fail
        refine (specUseOk_any _ _ _ _ _ _ _ _ _ _ hO0_5.at_ hl0s hO1_5.at_ hl1s hO2_5.at_ hl2s HQ2.out).mono ?_
        rintro e w6 ⟨rfl, hB6⟩
        have hb6 := next hb5 hB6
        have hO0_6 := hO0_5.below hB6
        have hO1_6 := hO1_5.below hB6
        have hO2_6 := hO2_5.below hB6
        clear hO0_5 hO1_5 hO2_5
        go_wp2_with fail
        refine (toLotS_any _ _ _ _ (hA0.below hb6) hl0s).mono ?_
        rintro e w7 ⟨rfl, hO0_7, hB7⟩
        have hb7 := next hb6 hB7
        go_wp2_with fail
        refine (toIntS_any _ _ _ _ (hA1.below hb7) hl1s).mono ?_
        rintro e w8 ⟨rfl, hO1_8, hB8⟩
        have hb8 := next hb7 hB8
        have hO0_8 := hO0_7.below hB8
        clear hO0_7
        go_wp2_with fail
        refine (toIntSS_any _ _ _ _ (hA2.below hb8) hl2s HQ2.out).mono ?_
        rintro e w9 ⟨rfl, hO2_9, hB9⟩
        have hb9 := next hb8 hB9
        have hO0_9 := hO0_8.below hB9
        have hO1_9 := hO1_8.below hB9
        clear hO0_8 hO1_8
        go_wp2_with fail
        refine (implUseOk_any _ _ _ _ _ _ _ _ _ _ hO0_9.at_ hl0s hO1_9.at_ hl1s hO2_9.at_ hl2s HQ2.out).mono ?_
        rintro e w10 ⟨rfl, hB10⟩
        have hb10 := next hb9 hB10
        have hO0_10 := hO0_9.below hB10
        have hO1_10 := hO1_9.below hB10
        have hO2_10 := hO2_9.below hB10
        clear hO0_9 hO1_9 hO2_9
        go_wp2_with fail
        refine (toLotS_any _ _ _ _ (hA0.below hb10) hl0s).mono ?_
        rintro e w11 ⟨rfl, hV0_11, hB11⟩
        have hb11 := next hb10 hB11
        have hO0_11 := hO0_10.below hB11
        have hO1_11 := hO1_10.below hB11
        have hO2_11 := hO2_10.below hB11
        clear hO0_10 hO1_10 hO2_10
        go_wp2_with fail
        refine (eqLotS_same _ _ _ _ _ _ hO0_11.at_ hV0_11.at_ hl0s).mono ?_
        rintro e w12 ⟨rfl, hB12⟩
        have hb12 := next hb11 hB12
        have hO1_12 := hO1_11.below hB12
        have hO2_12 := hO2_11.below hB12
        clear hO1_11 hO2_11
        go_wp2_with fail
        refine (toIntS_any _ _ _ _ (hA1.below hb12) hl1s).mono ?_
        rintro e w13 ⟨rfl, hV1_13, hB13⟩
        have hb13 := next hb12 hB13
        have hO1_13 := hO1_12.below hB13
        have hO2_13 := hO2_12.below hB13
        clear hO1_12 hO2_12
        go_wp2_with fail
        refine (eqIntS_same _ _ _ _ _ _ hO1_13.at_ hV1_13.at_ hl1s).mono ?_
        rintro e w14 ⟨rfl, hB14⟩
        have hb14 := next hb13 hB14
        have hO2_14 := hO2_13.below hB14
        clear hO2_13
        go_wp2_with fail
        refine (toIntSS_any _ _ _ _ (hA2.below hb14) hl2s HQ2.out).mono ?_
        rintro e w15 ⟨rfl, hV2_15, hB15⟩
        have hb15 := next hb14 hB15
        have hO2_15 := hO2_14.below hB15
        clear hO2_14
        go_wp2_with fail
        refine (eqIntSS_same _ _ _ _ _ _ hO2_15.at_ hV2_15.at_ hl2s HQ2.out).mono ?_
        rintro e w16 ⟨rfl, hB16⟩
        have hb16 := next hb15 hB16
        go_wp2_with fail
        go_ret
        exact ⟨rfl, hb16⟩
  · go_enter Try.func9, Try.ntmps9
    go_wp2_with fail
    go_ret
    exact ⟨rfl, by go_grown⟩

theorem exactUseOk_contract (H : Type) (enc : TypeId × Value → H) (W : World) (base : Nat) (args : Array Value) (ds gs : List (DataW H)) (before : List MemPlace)
    (hval : ∀ (j : Nat) t v, Try.f9.params[j]? = some t → args[j]? = some v → Value.okWide Try.prog W .any base t v)
    (hW : DataW.Whole enc Try.prog Try.f9.params.toList Rows.fnExactUseOkSpec.vars false W args.toList ds gs before) :
    Calls Try.prog 9 args W fun e W' => ∃ v, e = .returned v ∧ Rows.fnExactUseOkSpec.post enc Try.prog Try.f9 false true false false W args v W' := by
  have hW' := hW
  obtain ⟨p, q, hA, hV, rfl, _, _⟩ := hW
  obtain ⟨rfl, rfl⟩ := trodVars_none hV
  rw [Try.params9] at hA
  obtain ⟨v0, vs0, d0, ds0, p0, q0, hargs, rfl, rfl, h0, r0⟩ := trodAll_cons hA
  obtain ⟨v1, vs1, d1, ds1, p1, q1, rfl, rfl, rfl, h1, r1⟩ := trodAll_cons r0
  obtain ⟨v2, vs2, d2, ds2, p2, q2, rfl, rfl, rfl, h2, r2⟩ := trodAll_cons r1
  obtain ⟨rfl, rfl, rfl⟩ := trodAll_nil r2
  obtain rfl : args = #[v0, v1, v2] := by cases args; simp_all
  obtain ⟨a0, len0, cap0, rfl⟩ := okWide_slice Try.underlying22 (hval 0 22 v0 rfl rfl)
  obtain ⟨fuel0, hf0⟩ := h0
  obtain ⟨A0, c0, l0, hcs0, hI0, hl0⟩ := open_lots hf0
  simp [Value.cells] at hcs0
  obtain ⟨rfl, rfl, rfl⟩ := hcs0
  obtain ⟨a1, len1, cap1, rfl⟩ := okWide_slice Try.underlying29 (hval 1 29 v1 rfl rfl)
  obtain ⟨fuel1, hf1⟩ := h1
  obtain ⟨A1, c1, l1, hcs1, hI1, hl1⟩ := open_numbers hf1
  simp [Value.cells] at hcs1
  obtain ⟨rfl, rfl, rfl⟩ := hcs1
  obtain ⟨a2, len2, cap2, rfl⟩ := okWide_slice Try.underlying42 (hval 2 42 v2 rfl rfl)
  obtain ⟨fuel2, hf2⟩ := h2
  obtain ⟨A2, c2, l2, hcs2, hI2, hl2, hp2⟩ := open_rows hf2
  simp [Value.cells] at hcs2
  obtain ⟨rfl, rfl, rfl⟩ := hcs2
  refine (exactUseOk_any _ _ _ _ _ _ _ _ _ W hI0 hl0 hI1 hl1 hI2 hl2 hp2).mono fun e W' ⟨he, hb⟩ => ?_
  subst he
  have hts : ∀ t ∈ Try.f9.params.toList, Try.prog.readableRec t = true ∧ t < Try.prog.types.size := by
    rw [Try.params9]
    intro t ht
    simp only [List.mem_cons, List.not_mem_nil, or_false] at ht
    rcases ht with rfl | rfl | rfl <;> exact ⟨by kernel_rfl, of_decide_eq_true (by kernel_rfl)⟩
  exact ⟨_, rfl, post_true hW' rfl rfl Try.underlying4 hts rfl rfl rfl hb⟩

set_option maxRecDepth 100000 in
theorem exactUseOk_holds : Rows.FnExactUseOkSaid :=
  OpenClaim.holds_of_wide 9 Try.f9 rfl rfl rfl rfl rfl rfl rfl ⟨rfl, rfl, rfl, rfl, rfl⟩ rfl rfl rfl rfl rfl (by kernel_rfl) Try.func9 (by kernel_rfl)
    (of_decide_eq_true (by kernel_rfl)) (by unfold Func.isWrapper; first | (rw [if_pos (by decide +kernel)]; kernel_rfl) | (rw [if_neg (by decide +kernel)]; exact ⟨rfl, rfl⟩))
    (fun os started H enc _ => returnsInHanded_of_change (C := Try.checked) own started (by kernel_rfl) Try.func9
      (ChangeSpec.witness6 (enc := enc) (C := Try.checked) false ⟨#[], #[.slice none 0 0, .slice none 0 0, .slice none 0 0], []⟩ 8 (by kernel_rfl) (by kernel_rfl) (by kernel_rfl) (by kernel_rfl))
      (fun W base args ds gs before hval hW _ _ => exactUseOk_contract H enc W base args ds gs before hval hW))
end Go.Proofs.Ytecmghoklleheab
