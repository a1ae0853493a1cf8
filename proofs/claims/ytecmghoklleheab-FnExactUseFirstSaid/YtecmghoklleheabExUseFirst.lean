/- For every list of lots and every list of wants the exact law of UseFirst answers true, and its arguments read as they did.
   Conditions: none. -/
import Derived.Test.YtecmghoklleheabRead2
import Derived.Test.YtecmghoklleheabExKit
import Derived.Test.YtecmghoklleheabMarkTab
namespace Go.Proofs.Ytecmghoklleheab
open Go.RowKit Go.ChangeShapes Go.WideShapes Go.ChangeAt

theorem LotSl_int_row {w w' : World} {b k n c : Nat} {xs : List Int} (h : IntSl w b (.slice (some ⟨b, 0, none⟩) n c) xs) (hg : w.grownBy w' (some k)) (hk : k < b) : IntSl w' b (.slice (some ⟨b, 0, none⟩) n c) xs :=
  World.ownsRow.kept h hg (.inr (fun e => by
    have e : some b = some k := e
    injection e with e
    omega))

set_option maxHeartbeats 2000000 in
theorem exactUseFirst_any (A B : Option Addr) (c d : Nat) (l : List Lot) (wants : List Int) (w : World) (hA : LotsAt w A l) (hl : l.length ≤ 9223372036854775807) (hT : IntsAt w B wants) (ht : wants.length ≤ 9223372036854775807) :
    Calls Try.prog 11 #[.slice A l.length c, .slice B wants.length d] w fun e w' => e = .returned (.bool true) ∧ Below w.heap.size w w' := by
  by_cases ht1 : wants.length ≤ 1048576
  · by_cases h : szP 1048576 l.length < 0
    · go_enter Try.func11, Try.ntmps11
      go_wp2_with fail
      refine (szLotS_b _ _ _ _ _ (by omega) (by omega) hl).mono ?_
      rintro e w1 ⟨rfl, hB1⟩
      go_wp2_with fail
      go_ret
      exact ⟨rfl, hB1⟩
    · have hl1 : l.length ≤ 1048576 := by have := szP_le h; omega
      obtain ⟨us, HX⟩ : ∃ us, Hid (useFirstL l wants = us) := ⟨_, hide rfl⟩
      have hn : us.length ≤ 1048576 := by rw [← HX.out]; exact Nat.le_trans useFirstL_len (by omega)
      have HUS : Hid (∀ x ∈ us, x.length ≤ 1048576) := hide (fun x hx => by rw [← HX.out] at hx; exact Nat.le_trans (useFirstL_rows x hx).1 (by omega))
      obtain ⟨r, HR⟩ : ∃ r, Hid (markEnd 1 us = r) := ⟨_, hide rfl⟩
      have hr : 0 ≤ r := by rw [← HR.out]; exact markEnd_ge us 1 (by omega)
      have hne : (r != r) = false := by simp
      go_enter Try.func11, Try.ntmps11
      go_wp2_with fail
      refine (szLotS_b _ _ _ _ _ (by omega) (by omega) hl).mono ?_
      rintro e w1 ⟨rfl, hB1⟩
      go_wp2_with fail
      refine (toLotS_any _ _ _ _ (hA.below hB1) hl1).mono ?_
      rintro e w2 ⟨rfl, hO2, hB2⟩
      have hb2 := next hB1 hB2
      go_wp2_with fail
      refine (toIntS_any _ _ _ _ (hT.below hb2) ht1).mono ?_
      rintro e w3 ⟨rfl, hP3, hB3⟩
      have hb3 := next hb2 hB3
      have hO3 := hO2.below hB3
      go_wp2_with fail
      refine (specUseFirst_any _ _ _ _ _ _ _ hO3.at_ hl1 hP3.at_ ht1).mono ?_
      rintro e w4 ⟨v0, rfl, hS0, hB4⟩
      rw [HX.out] at hS0
      obtain ⟨A0, c0, rfl, -⟩ := hS0.form
      have HS0 := hide hS0
      have hb4 := next hb3 hB4
      have hsz4 := hb4.size
      have hd4 := Below.refl w4.heap.size w4
      clear hO2 hO3 hP3 hB2 hB3 hB4 hS0
      go_wp2_with fail
      refine (toLotS_any _ _ _ _ (hA.below hb4) hl1).mono ?_
      rintro e w5 ⟨rfl, hO5, hB5⟩
      have hb5 := next hb4 hB5
      have hd5 := next hd4 hB5
      have hlt45 : w4.heap.size < w5.heap.size := hO5.lt
      go_wp2_with fail
      refine (toIntS_any _ _ _ _ (hT.below hb5) ht1).mono ?_
      rintro e w6 ⟨rfl, hP6, hB6⟩
      have hb6 := next hb5 hB6
      have hd6 := next hd5 hB6
      have hO6 := hO5.below hB6
      have hlt56 : w5.heap.size < w6.heap.size := hP6.lt
      go_wp2_with fail
      refine (implUseFirst_any _ _ _ _ _ _ _ hO6.at_ hl1 hP6.at_ ht1).mono ?_
      rintro e w7 ⟨v1, rfl, hS1, hB7⟩
      rw [HX.out] at hS1
      obtain ⟨A1, c1, rfl, -⟩ := hS1.form
      have hb7 := next hb6 hB7
      have hd7 := next hd6 hB7
      have hO7 := hO6.below hB7
      have hP7 := hP6.below hB7
      clear hO5 hO6 hP6 hB5 hB6 hB7 hd4 hd5 hd6
      go_wp2_with fail
      refine (eqIntSS_same _ _ _ _ _ _ hS1.rows (HS0.out.below hd7).rows hn HUS.out).mono ?_
      rintro e w8 ⟨rfl, hB8⟩
      have hb8 := next hb7 hB8
      have hd8 := next hd7 hB8
      have hO8 := hO7.below hB8
      have hP8 := hP7.below hB8
      have hS1_8 := hS1.below hB8
      clear hO7 hP7 hS1 hB8 hd7
      go_wp2_with fail
      refine (toLotS_any _ _ _ _ (hA.below hb8) hl1).mono ?_
      rintro e w9 ⟨rfl, hO9, hB9⟩
      have hb9 := next hb8 hB9
      have hd9 := next hd8 hB9
      have hO8_9 := hO8.below hB9
      have hP9 := hP8.below hB9
      have hS1_9 := hS1_8.below hB9
      clear hO8 hP8 hS1_8 hB9 hd8
      go_wp2_with fail
      refine (eqLotS_same _ _ _ _ _ _ hO8_9.at_ hO9.at_ hl1).mono ?_
      rintro e w10 ⟨rfl, hB10⟩
      have hb10 := next hb9 hB10
      have hd10 := next hd9 hB10
      have hO10 := hO8_9.below hB10
      have hP10 := hP9.below hB10
      have hS1_10 := hS1_9.below hB10
      clear hO8_9 hO9 hP9 hS1_9 hB10 hd9
      go_wp2_with fail
      refine (toIntS_any _ _ _ _ (hT.below hb10) ht1).mono ?_
      rintro e w11 ⟨rfl, hP11, hB11⟩
      have hb11 := next hb10 hB11
      have hd11 := next hd10 hB11
      have hO11 := hO10.below hB11
      have hP10_11 := hP10.below hB11
      have hS1_11 := hS1_10.below hB11
      clear hO10 hP10 hS1_10 hB11 hd10
      go_wp2_with fail
      refine (eqIntS_same _ _ _ _ _ _ hP10_11.at_ hP11.at_ ht1).mono ?_
      rintro e w12 ⟨rfl, hB12⟩
      have hb12 := next hb11 hB12
      have hd12 := next hd11 hB12
      have hM12 := (hO11.below hB12).sl (Nat.le_refl w4.heap.size) hl1
      have hN12 := (hP10_11.below hB12).sl (Nat.le_refl w5.heap.size) ht1
      have hS1_12 := hS1_11.below hB12
      have hr1 : 0 ≤ 1 + 2 * (l.length : Int) := by omega
      clear hO11 hP10_11 hP11 hS1_11 hB12 hd11
      go_wp2_with fail
      refine (markLotS_any _ _ _ _ _ _ hM12 hl1 (by omega) (by omega)).mono ?_
      rintro e w13 ⟨rfl, -, hg13⟩
      have hg13 : w12.grownBy w13 (some w4.heap.size) := hg13
      have hb13 : Below w.heap.size w w13 := hb12.grown hg13 hb12.size (fun k hk => by injection hk with hk; omega)
      have hd13 : Below w4.heap.size w4 w13 := hd12.grown hg13 hd12.size (fun k hk => by injection hk with hk; omega)
      have hN13 := LotSl_int_row hN12 hg13 (by omega)
      have hS1_13 := hS1_12.grown hg13 (by omega)
      clear hg13 hM12 hN12 hS1_12 hd12
      go_wp2_with fail
      refine (markIntS_any _ _ _ _ _ _ hN13 ht1 (by omega) (by omega)).mono ?_
      rintro e w14 ⟨rfl, -, hg14⟩
      have hg14 : w13.grownBy w14 (some w5.heap.size) := hg14
      have hb14 : Below w.heap.size w w14 := hb13.grown hg14 hb13.size (fun k hk => by injection hk with hk; omega)
      have hd14 : Below w4.heap.size w4 w14 := hd13.grown hg14 hd13.size (fun k hk => by injection hk with hk; omega)
      have hS1_14 := hS1_13.grown hg14 hlt56
      have hr2 : 0 ≤ 1 + 2 * (l.length : Int) + (wants.length : Int) := by omega
      clear hg14 hN13 hS1_13 hd13
      go_wp2_with fail
      refine (eqIntSS_same _ _ _ _ _ _ hS1_14.rows (HS0.out.below hd14).rows hn HUS.out).mono ?_
      rintro e w15 ⟨rfl, hB15⟩
      have hb15 := next hb14 hB15
      have hd15 := next hd14 hB15
      have hS1_15 := hS1_14.below hB15
      clear hS1_14 hB15 hd14
      go_wp2_with fail
      refine (markIntSS_any _ _ _ _ _ _ hS1_15 hn HUS.out (by omega) (by omega)).mono ?_
      rintro e w16 ⟨rfl, hS1_16, hL16⟩
      rw [HR.out]
      have hb16 : Below w.heap.size w w16 := hb15.trans (hL16.mono hb6.size)
      have hd16 : Below w4.heap.size w4 w16 := hd15.trans (hL16.mono (by omega))
      have hRw : RowsAt w16 A1 (markGo 1 us) := by
        obtain ⟨A', c', e, hI⟩ := hS1_16.form
        injection e with e
        rw [e]
        exact hI
      have HRW := hide hRw
      clear hS1_15 hS1_16 hL16 hRw hd15
      go_wp2_with fail
      refine (heldIntSS_any _ _ _ _ _ HRW.out hn HUS.out (by omega) (by omega)).mono ?_
      rintro e w17 ⟨rfl, hw17⟩
      subst hw17
      rw [HR.out]
      go_wp2_with fail
      refine (toLotS_any _ _ _ _ (hA.below hb16) hl1).mono ?_
      rintro e w18 ⟨rfl, hO18, hB18⟩
      have hb18 := next hb16 hB18
      have hd18 := next hd16 hB18
      go_wp2_with fail
      refine (toIntS_any _ _ _ _ (hT.below hb18) ht1).mono ?_
      rintro e w19 ⟨rfl, hP19, hB19⟩
      have hb19 := next hb18 hB19
      have hd19 := next hd18 hB19
      have hO19 := hO18.below hB19
      go_wp2_with fail
      refine (implUseFirst_any _ _ _ _ _ _ _ hO19.at_ hl1 hP19.at_ ht1).mono ?_
      rintro e w20 ⟨v2, rfl, hS2, hB20⟩
      rw [HX.out] at hS2
      obtain ⟨A2, c2, rfl, -⟩ := hS2.form
      have hb20 := next hb19 hB20
      have hd20 := next hd19 hB20
      have HRW20 := hide (((HRW.out.below hB18).below hB19).below hB20)
      clear hO18 hO19 hP19 HRW hB18 hB19 hB20 hd16 hd18 hd19
      go_wp2_with fail
      refine (eqIntSS_same _ _ _ _ _ _ hS2.rows (HS0.out.below hd20).rows hn HUS.out).mono ?_
      rintro e w21 ⟨rfl, hB21⟩
      have hb21 := next hb20 hB21
      have HRW21 := hide (HRW20.out.below hB21)
      clear hS2 HRW20 hB21 hd20
      go_wp2_with fail
      refine (heldIntSS_any _ _ _ _ _ HRW21.out hn HUS.out (by omega) (by omega)).mono ?_
      rintro e w22 ⟨rfl, hw22⟩
      subst hw22
      rw [HR.out]
      go_wp2_with fail
      go_ret
      exact ⟨rfl, hb21⟩
  · go_enter Try.func11, Try.ntmps11
    go_wp2_with fail
    go_ret
    exact ⟨rfl, by go_grown⟩

theorem exactUseFirst_contract (H : Type) (enc : TypeId × Value → H) (W : World) (base : Nat) (args : Array Value) (ds gs : List (DataW H)) (before : List MemPlace)
    (hval : ∀ (j : Nat) t v, Try.f11.params[j]? = some t → args[j]? = some v → Value.okWide Try.prog W .any base t v)
    (hW : DataW.Whole enc Try.prog Try.f11.params.toList Rows.fnExactUseFirstSpec.vars false W args.toList ds gs before) :
    Calls Try.prog 11 args W fun e W' => ∃ v, e = .returned v ∧ Rows.fnExactUseFirstSpec.post enc Try.prog Try.f11 false true false false W args v W' := by
  have hW' := hW
  obtain ⟨p, q, hA, hV, rfl, _, _⟩ := hW
  obtain ⟨rfl, rfl⟩ := trodVars_none hV
  rw [Try.params11] at hA
  obtain ⟨v0, vs0, d0, ds0, p0, q0, hargs, rfl, rfl, h0, r0⟩ := trodAll_cons hA
  obtain ⟨v1, vs1, d1, ds1, p1, q1, rfl, rfl, rfl, h1, r1⟩ := trodAll_cons r0
  obtain ⟨rfl, rfl, rfl⟩ := trodAll_nil r1
  obtain rfl : args = #[v0, v1] := by cases args; simp_all
  obtain ⟨a0, len0, cap0, rfl⟩ := okWide_slice Try.underlying22 (hval 0 22 v0 rfl rfl)
  obtain ⟨fuel0, hf0⟩ := h0
  obtain ⟨A0, c0, l0, hcs0, hI0, hl0⟩ := open_lots hf0
  simp [Value.cells] at hcs0
  obtain ⟨rfl, rfl, rfl⟩ := hcs0
  obtain ⟨a1, len1, cap1, rfl⟩ := okWide_slice Try.underlying29 (hval 1 29 v1 rfl rfl)
  obtain ⟨fuel1, hf1⟩ := h1
  obtain ⟨A1, c1, l1, hcs1, hI1, hl1⟩ := open_numbers hf1
  simp [Value.cells] at hcs1
  obtain ⟨rfl, rfl, rfl⟩ := hcs1
  refine (exactUseFirst_any _ _ _ _ _ _ W hI0 hl0 hI1 hl1).mono fun e W' ⟨he, hb⟩ => ?_
  subst he
  have hts : ∀ t ∈ Try.f11.params.toList, Try.prog.readableRec t = true ∧ t < Try.prog.types.size := by
    rw [Try.params11]
    intro t ht
    simp only [List.mem_cons, List.not_mem_nil, or_false] at ht
    rcases ht with rfl | rfl <;> exact ⟨by kernel_rfl, of_decide_eq_true (by kernel_rfl)⟩
  exact ⟨_, rfl, post_true hW' rfl rfl Try.underlying4 hts rfl rfl rfl hb⟩

set_option maxRecDepth 100000 in
theorem exactUseFirst_holds : Rows.FnExactUseFirstSaid :=
  OpenClaim.holds_of_wide 11 Try.f11 rfl rfl rfl rfl rfl rfl rfl ⟨rfl, rfl, rfl, rfl, rfl⟩ rfl rfl rfl rfl rfl (by kernel_rfl) Try.func11 (by kernel_rfl)
    (of_decide_eq_true (by kernel_rfl)) (by unfold Func.isWrapper; first | (rw [if_pos (by decide +kernel)]; kernel_rfl) | (rw [if_neg (by decide +kernel)]; exact ⟨rfl, rfl⟩))
    (fun os started H enc _ => returnsInHanded_of_change (C := Try.checked) own started (by kernel_rfl) Try.func11
      (ChangeSpec.witness6 (enc := enc) (C := Try.checked) false ⟨#[], #[.slice none 0 0, .slice none 0 0], []⟩ 8 (by kernel_rfl) (by kernel_rfl) (by kernel_rfl) (by kernel_rfl))
      (fun W base args ds gs before hval hW _ _ => exactUseFirst_contract H enc W base args ds gs before hval hW))
end Go.Proofs.Ytecmghoklleheab
