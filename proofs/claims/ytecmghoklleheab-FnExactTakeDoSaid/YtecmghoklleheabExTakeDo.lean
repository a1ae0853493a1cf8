/- For every list of lots, every day and every list of numbers the exact law of TakeDo answers true, and its arguments read as they did.
   Conditions: none. -/
import Derived.Test.YtecmghoklleheabRead2
import Derived.Test.YtecmghoklleheabMark
import Derived.Test.YtecmghoklleheabSlKit
import Derived.Test.YtecmghoklleheabTakeDo
namespace Go.Proofs.Ytecmghoklleheab
open Go.RowKit Go.ChangeShapes Go.WideShapes Go.ChangeAt

set_option maxHeartbeats 2000000 in
theorem exactTakeDo_any (A B : Option Addr) (c d : Nat) (l : List Lot) (day : Int) (take : List Int) (w : World) (hA : LotsAt w A l) (hl : l.length ≤ 9223372036854775807) (hT : IntsAt w B take) (ht : take.length ≤ 9223372036854775807) :
    Calls Try.prog 7 #[.slice A l.length c, .int .i64 day, .slice B take.length d] w fun e w' => e = .returned (.bool true) ∧ Below w.heap.size w w' := by
  by_cases ht1 : take.length ≤ 1048576
  · by_cases h : szP 1048576 l.length < 0
    · go_enter Try.func7, Try.ntmps7
      go_wp2_with fail
      refine (szLotS_b _ _ _ _ _ (by omega) (by omega) hl).mono ?_
      rintro e w1 ⟨rfl, hB1⟩
      go_wp2_with fail
      go_ret
      exact ⟨rfl, hB1⟩
    · have hl1 : l.length ≤ 1048576 := by have := szP_le h; omega
      have hn : (takeDoL l day take).length ≤ 1048576 := Nat.le_trans (takeDoL_len _ _ _) hl1
      obtain ⟨ls, HX⟩ : ∃ ls, Hid (takeDoL l day take = ls) := ⟨_, hide rfl⟩
      rw [HX.out] at hn
      obtain ⟨ok, HK⟩ : ∃ ok, Hid (takeOkL l day take = ok) := ⟨_, hide rfl⟩
      have hbb : (ok != ok) = false := by simp
      have hne : (1 + 2 * (ls.length : Int) != 1 + 2 * (ls.length : Int)) = false := by simp
      go_enter Try.func7, Try.ntmps7
      go_wp2_with fail
      refine (szLotS_b _ _ _ _ _ (by omega) (by omega) hl).mono ?_
      rintro e w1 ⟨rfl, hB1⟩
      go_wp2_with fail
      refine (toLotS_any _ _ _ _ (hA.below hB1) hl1).mono ?_
      rintro e w2 ⟨rfl, hO2, hB2⟩
      have hb2 := next hB1 hB2
      go_wp2_with fail
      refine (toIntS_any _ _ _ _ (hT.below hb2) ht1).mono ?_
      rintro e w3 ⟨rfl, hP3, hB3⟩
      have hb3 := next hb2 hB3
      have hO3 := hO2.below hB3
      go_wp2_with fail
      refine (specTakeDo_any _ _ _ _ _ _ _ _ hO3.at_ hl1 hP3.at_ ht1).mono ?_
      rintro e w4 ⟨v0, rfl, hS0, hB4⟩
      rw [HX.out] at hS0
      rw [HK.out]
      obtain ⟨A0, c0, rfl, -⟩ := hS0.form
      have hb4 := next hb3 hB4
      clear hO2 hO3 hP3 hB2 hB3 hB4
      go_wp2_with fail
      refine (toLotS_any _ _ _ _ (hA.below hb4) hl1).mono ?_
      rintro e w5 ⟨rfl, hO5, hB5⟩
      have hb5 := next hb4 hB5
      have hlt45 : w4.heap.size < w5.heap.size := hO5.lt
      go_wp2_with fail
      refine (toIntS_any _ _ _ _ (hT.below hb5) ht1).mono ?_
      rintro e w6 ⟨rfl, hP6, hB6⟩
      have hb6 := next hb5 hB6
      have hO6 := hO5.below hB6
      have hS0_6 := (hS0.below hB5).below hB6
      have hlt56 : w5.heap.size < w6.heap.size := hP6.lt
      go_wp2_with fail
      refine (implTakeDo_any _ _ _ _ _ _ _ _ hO6.at_ hl1 hP6.at_ ht1).mono ?_
      rintro e w7 ⟨v1, rfl, hS1, hB7⟩
      rw [HX.out] at hS1
      rw [HK.out]
      obtain ⟨A1, c1, rfl, -⟩ := hS1.form
      have hb7 := next hb6 hB7
      have hO7 := hO6.below hB7
      have hP7 := hP6.below hB7
      have hS0_7 := hS0_6.below hB7
      clear hO5 hO6 hP6 hS0_6 hB5 hB6 hB7
      have hlo0 : ∀ k, k = w4.heap.size ∨ k = w5.heap.size → (Value.slice A0 ls.length c0).ownBlock = none ∨ (Value.slice A0 ls.length c0).ownBlock ≠ some k := fun k hk => by
        cases e0 : (Value.slice A0 ls.length c0).ownBlock with
        | none => exact .inl rfl
        | some j => exact .inr (fun e => by injection e with e; have := (World.ownsRow.lt hS0 j e0).2; omega)
      have hlo1 : ∀ k, k = w4.heap.size ∨ k = w5.heap.size → (Value.slice A1 ls.length c1).ownBlock = none ∨ (Value.slice A1 ls.length c1).ownBlock ≠ some k := fun k hk => by
        cases e0 : (Value.slice A1 ls.length c1).ownBlock with
        | none => exact .inl rfl
        | some j => exact .inr (fun e => by injection e with e; have := (World.ownsRow.lt hS1 j e0).1; omega)
      have hdiff : (Value.slice A0 ls.length c0).ownBlock = none ∨ (Value.slice A0 ls.length c0).ownBlock ≠ (Value.slice A1 ls.length c1).ownBlock := by
        cases e0 : (Value.slice A0 ls.length c0).ownBlock with
        | none => exact .inl rfl
        | some k =>
          refine .inr fun e1 => ?_
          have a := (World.ownsRow.lt hS0 k e0).2
          have b := (World.ownsRow.lt hS1 k e1.symm).1
          omega
      have hge1 : ∀ k, (Value.slice A1 ls.length c1).ownBlock = some k → w.heap.size ≤ k := fun k hk => Nat.le_trans hb6.size (World.ownsRow.lt hS1 k hk).1
      have HLO0 := hide hlo0
      have HLO1 := hide hlo1
      have HDF := hide hdiff
      have HGE := hide hge1
      clear hlo0 hlo1 hdiff hge1
      go_wp2_with fail
      refine (eqLotS_same _ _ _ _ _ _ hS1.lots hS0_7.lots hn).mono ?_
      rintro e w8 ⟨rfl, hB8⟩
      have hb8 := next hb7 hB8
      have hO8 := hO7.below hB8
      have hP8 := hP7.below hB8
      have hS0_8 := hS0_7.below hB8
      have hS1_8 := hS1.below hB8
      clear hO7 hP7 hS0_7 hS1 hB8 hS0
      go_wp2_with fail
      refine (toLotS_any _ _ _ _ (hA.below hb8) hl1).mono ?_
      rintro e w9 ⟨rfl, hO9, hB9⟩
      have hb9 := next hb8 hB9
      have hO8_9 := hO8.below hB9
      have hP9 := hP8.below hB9
      have hS0_9 := hS0_8.below hB9
      have hS1_9 := hS1_8.below hB9
      clear hO8 hP8 hS0_8 hS1_8 hB9
      go_wp2_with fail
      refine (eqLotS_same _ _ _ _ _ _ hO8_9.at_ hO9.at_ hl1).mono ?_
      rintro e w10 ⟨rfl, hB10⟩
      have hb10 := next hb9 hB10
      have hO10 := hO8_9.below hB10
      have hP10 := hP9.below hB10
      have hS0_10 := hS0_9.below hB10
      have hS1_10 := hS1_9.below hB10
      clear hO8_9 hO9 hP9 hS0_9 hS1_9 hB10
      go_wp2_with fail
      refine (toIntS_any _ _ _ _ (hT.below hb10) ht1).mono ?_
      rintro e w11 ⟨rfl, hP11, hB11⟩
      have hb11 := next hb10 hB11
      have hO11 := hO10.below hB11
      have hP10_11 := hP10.below hB11
      have hS0_11 := hS0_10.below hB11
      have hS1_11 := hS1_10.below hB11
      clear hO10 hP10 hS0_10 hS1_10 hB11
      go_wp2_with fail
      refine (eqIntS_same _ _ _ _ _ _ hP10_11.at_ hP11.at_ ht1).mono ?_
      rintro e w12 ⟨rfl, hB12⟩
      have hb12 := next hb11 hB12
      have hM12 := (hO11.below hB12).sl (Nat.le_refl w4.heap.size) hl1
      have hN12 := (hP10_11.below hB12).sl (Nat.le_refl w5.heap.size) ht1
      have hS0_12 := hS0_11.below hB12
      have hS1_12 := hS1_11.below hB12
      have hr : 0 ≤ 1 + 2 * (l.length : Int) := by omega
      clear hO11 hP10_11 hP11 hS0_11 hS1_11 hB12
      go_wp2_with fail
      refine (markLotS_any _ _ _ _ _ _ hM12 hl1 (by omega) (by omega)).mono ?_
      rintro e w13 ⟨rfl, -, hg13⟩
      have hg13 : w12.grownBy w13 (some w4.heap.size) := hg13
      have hb13 : Below w.heap.size w w13 := hb12.grown hg13 hb12.size (fun k hk => by injection hk with hk; have := hb4.size; omega)
      have hN13 := hN12.row hg13 (.inr (fun e => by have e : some w5.heap.size = some w4.heap.size := e; injection e with e; omega))
      have hS0_13 := hS0_12.row hg13 (HLO0.out _ (.inl rfl))
      have hS1_13 := hS1_12.row hg13 (HLO1.out _ (.inl rfl))
      clear hg13 hM12 hN12 hS0_12 hS1_12
      go_wp2_with fail
      refine (markIntS_any _ _ _ _ _ _ hN13 ht1 (by omega) (by omega)).mono ?_
      rintro e w14 ⟨rfl, -, hg14⟩
      have hg14 : w13.grownBy w14 (some w5.heap.size) := hg14
      have hb14 : Below w.heap.size w w14 := hb13.grown hg14 hb13.size (fun k hk => by injection hk with hk; have := hb5.size; omega)
      have hS0_14 := hS0_13.row hg14 (HLO0.out _ (.inr rfl))
      have hS1_14 := hS1_13.row hg14 (HLO1.out _ (.inr rfl))
      have hr2 : 0 ≤ 1 + 2 * (l.length : Int) + (take.length : Int) := by omega
      clear hg14 hN13 hS0_13 hS1_13
      go_wp2_with fail
      refine (eqLotS_same _ _ _ _ _ _ hS1_14.lots hS0_14.lots hn).mono ?_
      rintro e w15 ⟨rfl, hB15⟩
      have hb15 := next hb14 hB15
      have hS0_15 := hS0_14.below hB15
      have hS1_15 := hS1_14.below hB15
      clear hS0_14 hS1_14 hB15
      go_wp2_with fail
      refine (markLotS_any _ _ _ _ _ _ hS1_15 hn (by omega) (by omega)).mono ?_
      rintro e w16 ⟨rfl, hS1_16, hg16⟩
      have hb16 : Below w.heap.size w w16 := hb15.grown hg16 hb15.size HGE.out
      have hS0_16 := hS0_15.row hg16 HDF.out
      have hr3 : 0 ≤ 1 + 2 * (ls.length : Int) := by omega
      have hH16 : LotsAt w16 A1 (seqLots 1 ls.length) := by
        have := hS1_16
        unfold LotSl at this
        obtain ⟨A', c', e, hI⟩ := hS1_16.form
        injection e with e
        rw [e]
        exact hI
      have HH16 := hide hH16
      clear hg16 hS0_15 hS1_15 hS1_16 hH16
      go_wp2_with fail
      refine (heldLotS_any _ _ _ _ _ HH16.out hn (by omega) (by omega)).mono ?_
      rintro e w17 ⟨rfl, hw17⟩
      subst hw17
      go_wp2_with fail
      refine (toLotS_any _ _ _ _ (hA.below hb16) hl1).mono ?_
      rintro e w18 ⟨rfl, hO18, hB18⟩
      have hb18 := next hb16 hB18
      go_wp2_with fail
      refine (toIntS_any _ _ _ _ (hT.below hb18) ht1).mono ?_
      rintro e w19 ⟨rfl, hP19, hB19⟩
      have hb19 := next hb18 hB19
      have hO19 := hO18.below hB19
      go_wp2_with fail
      refine (implTakeDo_any _ _ _ _ _ _ _ _ hO19.at_ hl1 hP19.at_ ht1).mono ?_
      rintro e w20 ⟨v2, rfl, hS2, hB20⟩
      rw [HX.out] at hS2
      rw [HK.out]
      obtain ⟨A2, c2, rfl, -⟩ := hS2.form
      have hb20 := next hb19 hB20
      have hS0_20 := ((hS0_16.below hB18).below hB19).below hB20
      have HH20 := hide (((HH16.out.below hB18).below hB19).below hB20)
      clear hO18 hO19 hP19 hS0_16 HH16 hB18 hB19 hB20
      go_wp2_with fail
      refine (eqLotS_same _ _ _ _ _ _ hS2.lots hS0_20.lots hn).mono ?_
      rintro e w21 ⟨rfl, hB21⟩
      have hb21 := next hb20 hB21
      have HH21 := hide (HH20.out.below hB21)
      clear hS2 hS0_20 HH20 hB21
      go_wp2_with fail
      refine (heldLotS_any _ _ _ _ _ HH21.out hn (by omega) (by omega)).mono ?_
      rintro e w22 ⟨rfl, hw22⟩
      subst hw22
      go_wp2_with fail
      go_ret
      exact ⟨rfl, hb21⟩
  · go_enter Try.func7, Try.ntmps7
    go_wp2_with fail
    go_ret
    exact ⟨rfl, by go_grown⟩

theorem exactTakeDo_contract (H : Type) (enc : TypeId × Value → H) (W : World) (base : Nat) (args : Array Value) (ds gs : List (DataW H)) (before : List MemPlace)
    (hval : ∀ (j : Nat) t v, Try.f7.params[j]? = some t → args[j]? = some v → Value.okWide Try.prog W .any base t v)
    (hW : DataW.Whole enc Try.prog Try.f7.params.toList Rows.fnExactTakeDoSpec.vars false W args.toList ds gs before) :
    Calls Try.prog 7 args W fun e W' => ∃ v, e = .returned v ∧ Rows.fnExactTakeDoSpec.post enc Try.prog Try.f7 false true false false W args v W' := by
  have hW' := hW
  obtain ⟨p, q, hA, hV, rfl, _, _⟩ := hW
  obtain ⟨rfl, rfl⟩ := trodVars_none hV
  rw [Try.params7] at hA
  obtain ⟨v0, vs0, d0, ds0, p0, q0, hargs, rfl, rfl, h0, r0⟩ := trodAll_cons hA
  obtain ⟨v1, vs1, d1, ds1, p1, q1, rfl, rfl, rfl, h1, r1⟩ := trodAll_cons r0
  obtain ⟨v2, vs2, d2, ds2, p2, q2, rfl, rfl, rfl, h2, r2⟩ := trodAll_cons r1
  obtain ⟨rfl, rfl, rfl⟩ := trodAll_nil r2
  obtain rfl : args = #[v0, v1, v2] := by cases args; simp_all
  obtain ⟨a0, len0, cap0, rfl⟩ := okWide_slice Try.underlying22 (hval 0 22 v0 rfl rfl)
  obtain ⟨fuel0, hf0⟩ := h0
  obtain ⟨A0, c0, l0, hcs0, hI0, hl0⟩ := open_lots hf0
  simp [Value.cells] at hcs0
  obtain ⟨rfl, rfl, rfl⟩ := hcs0
  obtain ⟨n1, rfl, -, -, wf1⟩ := open_int Try.underlying3 (hval 1 3 v1 rfl rfl) h1
  obtain ⟨a2, len2, cap2, rfl⟩ := okWide_slice Try.underlying29 (hval 2 29 v2 rfl rfl)
  obtain ⟨fuel2, hf2⟩ := h2
  obtain ⟨A2, c2, l2, hcs2, hI2, hl2⟩ := open_numbers hf2
  simp [Value.cells] at hcs2
  obtain ⟨rfl, rfl, rfl⟩ := hcs2
  refine (exactTakeDo_any _ _ _ _ _ _ _ W hI0 hl0 hI2 hl2).mono fun e W' ⟨he, hb⟩ => ?_
  subst he
  have hts : ∀ t ∈ Try.f7.params.toList, Try.prog.readableRec t = true ∧ t < Try.prog.types.size := by
    rw [Try.params7]
    intro t ht
    simp only [List.mem_cons, List.not_mem_nil, or_false] at ht
    rcases ht with rfl | rfl | rfl <;> exact ⟨by kernel_rfl, of_decide_eq_true (by kernel_rfl)⟩
  exact ⟨_, rfl, post_true hW' rfl rfl Try.underlying4 hts rfl rfl rfl hb⟩

set_option maxRecDepth 100000 in
theorem exactTakeDo_holds : Rows.FnExactTakeDoSaid :=
  OpenClaim.holds_of_wide 7 Try.f7 rfl rfl rfl rfl rfl rfl rfl ⟨rfl, rfl, rfl, rfl, rfl⟩ rfl rfl rfl rfl rfl (by kernel_rfl) Try.func7 (by kernel_rfl)
    (of_decide_eq_true (by kernel_rfl)) (by unfold Func.isWrapper; first | (rw [if_pos (by decide +kernel)]; kernel_rfl) | (rw [if_neg (by decide +kernel)]; exact ⟨rfl, rfl⟩))
    (fun os started H enc _ => returnsInHanded_of_change (C := Try.checked) own started (by kernel_rfl) Try.func7
      (ChangeSpec.witness6 (enc := enc) (C := Try.checked) false ⟨#[], #[.slice none 0 0, .int .i64 0, .slice none 0 0], []⟩ 8 (by kernel_rfl) (by kernel_rfl) (by kernel_rfl) (by kernel_rfl))
      (fun W base args ds gs before hval hW _ _ => exactTakeDo_contract H enc W base args ds gs before hval hW))
end Go.Proofs.Ytecmghoklleheab
