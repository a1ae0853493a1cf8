/- For every list of dishes, every list of numbers the exact law of FlowEnds answers true, and its arguments read as they did.
   Conditions: none. -/
import Derived.Test.YtcdcndliooehnaaRead2
import Derived.Test.YtcdcndliooehnaaExKit
import Derived.Test.YtcdcndliooehnaaFlow2
import Derived.Test.YtcdcndliooehnaaMarks2
import Derived.Test.YtcdcndliooehnaaSlKit
namespace Go.Proofs.Ytcdcndliooehnaa
open Go.RowKit Go.ChangeShapes Go.WideShapes Go.ChangeAt

set_option maxRecDepth 100000 in
set_option maxHeartbeats 2000000 in
theorem exactFlowEnds_any (A0 A1 : Option Addr) (c0 c1 : Nat) (x0 : List Dish) (x1 : List Int) (w : World) (hA0 : DishesAt w A0 x0) (hl0 : x0.length ≤ 9223372036854775807) (hA1 : IntsAt w A1 x1) (hl1 : x1.length ≤ 9223372036854775807) :
    Calls Try.prog 5 #[.slice A0 x0.length c0, .slice A1 x1.length c1] w fun e w' => e = .returned (.bool true) ∧ Below w.heap.size w w' := by
  by_cases hl1s : x1.length ≤ 1048576
  · by_cases h0z : szP 1048576 x0.length < 0
    · go_enter Try.func5, Try.ntmps5
      go_wp2_with fail
      refine (szDishS_b _ _ _ _ _ (by omega) (by omega) hl0).mono ?_
      rintro e w1 ⟨rfl, hB1⟩
      have hb1 := hB1
      go_wp2_with fail
      go_ret
      exact ⟨rfl, hb1⟩
    · have hl0s : x0.length ≤ 1048576 := by have := szP_le h0z; omega
      have hn : (flowEndsL x0 x1).length ≤ 1048576 := Nat.le_trans (flowEndsL_len _ _) hl0s
      obtain ⟨xs, HX⟩ : ∃ xs, Hid (flowEndsL x0 x1 = xs) := ⟨_, hide rfl⟩
      rw [HX.out] at hn
      have hne : (1 + (xs.length : Int) != 1 + (xs.length : Int)) = false := by simp
      go_enter Try.func5, Try.ntmps5
      go_wp2_with fail
      refine (szDishS_b _ _ _ _ _ (by omega) (by omega) hl0).mono ?_
      rintro e w1 ⟨rfl, hB1⟩
      have hb1 := hB1
      go_wp2_with fail
      refine (toDishS_any _ _ _ _ (hA0.below hb1) hl0s).mono ?_
      rintro e w2 ⟨rfl, hO0_2, hB2⟩
      have hb2 := next hb1 hB2
      have hlt0_2 := hO0_2.lt
      go_wp2_with fail
      refine (toIntS_any _ _ _ _ (hA1.below hb2) hl1s).mono ?_
      rintro e w3 ⟨rfl, hO1_3, hB3⟩
      have hb3 := next hb2 hB3
      have hO0_3 := hO0_2.below hB3
      clear hO0_2
      have hlt1_3 := hO1_3.lt
      go_wp2_with fail
      refine (specFlowEnds_any _ _ _ _ _ _ _ hO0_3.at_ hl0s hO1_3.at_ hl1s (by omega)).mono ?_
      rintro e w4 ⟨v0, rfl, hS0, hB4⟩
      rw [HX.out] at hS0
      obtain ⟨A0_, c0_, rfl, -⟩ := hS0.form
      have hb4 := next hb3 hB4
      have hO0_4 := hO0_3.below hB4
      have hO1_4 := hO1_3.below hB4
      clear hO0_3 hO1_3
      have hS0_4 := hS0
      go_wp2_with fail
      refine (toDishS_any _ _ _ _ (hA0.below hb4) hl0s).mono ?_
      rintro e w5 ⟨rfl, hO0_5, hB5⟩
      have hb5 := next hb4 hB5
      have hS0_5 := hS0_4.below hB5
      clear hS0_4
      have hlt0_5 := hO0_5.lt
      go_wp2_with fail
      refine (toIntS_any _ _ _ _ (hA1.below hb5) hl1s).mono ?_
      rintro e w6 ⟨rfl, hO1_6, hB6⟩
      have hb6 := next hb5 hB6
      have hS0_6 := hS0_5.below hB6
      have hO0_6 := hO0_5.below hB6
      clear hS0_5 hO0_5
      have hlt1_6 := hO1_6.lt
      go_wp2_with fail
      refine (implFlowEnds_any _ _ _ _ _ _ _ hO0_6.at_ hl0s hO1_6.at_ hl1s).mono ?_
      rintro e w7 ⟨v1, rfl, hS1, hB7⟩
      rw [HX.out] at hS1
      obtain ⟨A1_, c1_, rfl, -⟩ := hS1.form
      have hb7 := next hb6 hB7
      have hS0_7 := hS0_6.below hB7
      have hO0_7 := hO0_6.below hB7
      have hO1_7 := hO1_6.below hB7
      clear hS0_6 hO0_6 hO1_6
      have hS1_7 := hS1
      go_wp2_with fail
      refine (eqIntS_same _ _ _ _ _ _ hS1_7.ints hS0_7.ints hn).mono ?_
      rintro e w8 ⟨rfl, hB8⟩
      have hb8 := next hb7 hB8
      have hS0_8 := hS0_7.below hB8
      have hO0_8 := hO0_7.below hB8
      have hO1_8 := hO1_7.below hB8
      have hS1_8 := hS1_7.below hB8
      clear hS0_7 hO0_7 hO1_7 hS1_7
      go_wp2_with fail
      refine (toDishS_any _ _ _ _ (hA0.below hb8) hl0s).mono ?_
      rintro e w9 ⟨rfl, hV0_9, hB9⟩
      have hb9 := next hb8 hB9
      have hS0_9 := hS0_8.below hB9
      have hO0_9 := hO0_8.below hB9
      have hO1_9 := hO1_8.below hB9
      have hS1_9 := hS1_8.below hB9
      clear hS0_8 hO0_8 hO1_8 hS1_8
      go_wp2_with fail
      refine (eqDishS_same _ _ _ _ _ _ hO0_9.at_ hV0_9.at_ hl0s).mono ?_
      rintro e w10 ⟨rfl, hB10⟩
      have hb10 := next hb9 hB10
      have hS0_10 := hS0_9.below hB10
      have hO0_10 := hO0_9.below hB10
      have hO1_10 := hO1_9.below hB10
      have hS1_10 := hS1_9.below hB10
      clear hS0_9 hO0_9 hO1_9 hS1_9
      go_wp2_with fail
      refine (toIntS_any _ _ _ _ (hA1.below hb10) hl1s).mono ?_
      rintro e w11 ⟨rfl, hV1_11, hB11⟩
      have hb11 := next hb10 hB11
      have hS0_11 := hS0_10.below hB11
      have hO0_11 := hO0_10.below hB11
      have hO1_11 := hO1_10.below hB11
      have hS1_11 := hS1_10.below hB11
      clear hS0_10 hO0_10 hO1_10 hS1_10
      go_wp2_with fail
      refine (eqIntS_same _ _ _ _ _ _ hO1_11.at_ hV1_11.at_ hl1s).mono ?_
      rintro e w12 ⟨rfl, hB12⟩
      have hb12 := next hb11 hB12
      have hS0_12 := hS0_11.below hB12
      have hO0_12 := hO0_11.below hB12
      have hO1_12 := hO1_11.below hB12
      have hS1_12 := hS1_11.below hB12
      clear hS0_11 hO0_11 hO1_11 hS1_11
      have hz5 := hB5.size
      have hz6 := hB6.size
      have hz7 := hB7.size
      have hz8 := hB8.size
      have hz9 := hB9.size
      have hz10 := hB10.size
      have hz11 := hB11.size
      have hz12 := hB12.size
      have hlt0 := hlt0_5
      have hlt1 := hlt1_6
      have HD0_0 : Hid ((Value.slice A0_ xs.length c0_).ownBlock = none ∨ (Value.slice A0_ xs.length c0_).ownBlock ≠ some w4.heap.size) := hide (by
        cases e0 : (Value.slice A0_ xs.length c0_).ownBlock with
        | none => exact .inl rfl
        | some k => exact .inr (fun e => by injection e with e; have := hS0.lt k e0; omega))
      have HD0_1 : Hid ((Value.slice A0_ xs.length c0_).ownBlock = none ∨ (Value.slice A0_ xs.length c0_).ownBlock ≠ some w5.heap.size) := hide (by
        cases e0 : (Value.slice A0_ xs.length c0_).ownBlock with
        | none => exact .inl rfl
        | some k => exact .inr (fun e => by injection e with e; have := hS0.lt k e0; omega))
      have HD1_0 : Hid ((Value.slice A1_ xs.length c1_).ownBlock = none ∨ (Value.slice A1_ xs.length c1_).ownBlock ≠ some w4.heap.size) := hide (by
        cases e0 : (Value.slice A1_ xs.length c1_).ownBlock with
        | none => exact .inl rfl
        | some k => exact .inr (fun e => by injection e with e; have := hS1.lt k e0; omega))
      have HD1_1 : Hid ((Value.slice A1_ xs.length c1_).ownBlock = none ∨ (Value.slice A1_ xs.length c1_).ownBlock ≠ some w5.heap.size) := hide (by
        cases e0 : (Value.slice A1_ xs.length c1_).ownBlock with
        | none => exact .inl rfl
        | some k => exact .inr (fun e => by injection e with e; have := hS1.lt k e0; omega))
      have HD01 : Hid ((Value.slice A0_ xs.length c0_).ownBlock = none ∨ (Value.slice A0_ xs.length c0_).ownBlock ≠ (Value.slice A1_ xs.length c1_).ownBlock) := hide (by
        cases e0 : (Value.slice A0_ xs.length c0_).ownBlock with
        | none => exact .inl rfl
        | some k => exact .inr (fun e1 => by have a := hS0.lt k e0; have b := hS1.lt k e1.symm; omega))
      have HGE : Hid (∀ k, (Value.slice A1_ xs.length c1_).ownBlock = some k → w.heap.size ≤ k) := hide (fun k hk => by have a := (hS1.lt k hk).1; have b := hb6.size; omega)
      have HW0 : Hid (w.heap.size ≤ w4.heap.size) := hide hb4.size
      have HW1 : Hid (w.heap.size ≤ w5.heap.size) := hide hb5.size
      have HN1_0 : Hid ((Value.slice (some ⟨w5.heap.size, 0, none⟩) x1.length x1.length).ownBlock = none ∨ (Value.slice (some ⟨w5.heap.size, 0, none⟩) x1.length x1.length).ownBlock ≠ some w4.heap.size) := hide (.inr (fun e => by have e : some w5.heap.size = some w4.heap.size := e; injection e with e; omega))
      have hM0_12 := hO0_12.sl (Nat.le_refl _) hl0s
      have hM1_12 := hO1_12.sl (Nat.le_refl _) hl1s
      clear hS0 hS1 hO0_12 hO1_12 hB1 hB2 hB3 hB4 hB5 hB6 hB7 hB8 hB9 hB10 hB11 hB12 hz5 hz6 hz7 hz8 hz9 hz10 hz11 hz12 hlt0 hlt1
      go_wp2_with fail
      refine (markDishS_any _ _ _ _ _ _ hM0_12 hl0s (by omega) (by omega)).mono ?_
      rintro e w13 ⟨rfl, -, hg13⟩
      have hb13 : Below w.heap.size w w13 := hb12.grown hg13 hb12.size (fun k hk => by have hk : some w4.heap.size = some k := hk; injection hk with hk; have := HW0.out; omega)
      have hS0_13 := hS0_12.row hg13 HD0_0.out
      have hS1_13 := hS1_12.row hg13 HD1_0.out
      have hM1_13 := hM1_12.row hg13 HN1_0.out
      clear hg13 hM0_12 hS0_12 hS1_12 hM1_12
      go_wp2_with fail
      refine (markIntS_any _ _ _ _ _ _ hM1_13 hl1s (by omega) (by omega)).mono ?_
      rintro e w14 ⟨rfl, -, hg14⟩
      have hb14 : Below w.heap.size w w14 := hb13.grown hg14 hb13.size (fun k hk => by have hk : some w5.heap.size = some k := hk; injection hk with hk; have := HW1.out; omega)
      have hS0_14 := hS0_13.row hg14 HD0_1.out
      have hS1_14 := hS1_13.row hg14 HD1_1.out
      clear hg14 hM1_13 hS0_13 hS1_13 
      have hr : 0 ≤ 1 + 2 * (x0.length : Int) + (x1.length : Int) := by omega
      go_wp2_with fail
      refine (eqIntS_same _ _ _ _ _ _ hS1_14.ints hS0_14.ints hn).mono ?_
      rintro e w15 ⟨rfl, hB15⟩
      have hb15 := next hb14 hB15
      have hS0_15 := hS0_14.below hB15
      have hS1_15 := hS1_14.below hB15
      clear hS0_14 hS1_14
      go_wp2_with fail
      refine (markIntS_any _ _ _ _ _ _ hS1_15 hn (by omega) (by omega)).mono ?_
      rintro e w16 ⟨rfl, hS1_16, hg16⟩
      have hb16 : Below w.heap.size w w16 := hb15.grown hg16 hb15.size HGE.out
      have hS0_16 := hS0_15.row hg16 HD01.out
      clear hg16 hS0_15 hS1_15
      go_wp2_with fail
      refine (heldIntS_any _ _ _ _ _ hS1_16.ints hn (by omega) (by omega)).mono ?_
      rintro e wh ⟨rfl, rfl⟩
      go_wp2_with fail
      refine (toDishS_any _ _ _ _ (hA0.below hb16) hl0s).mono ?_
      rintro e w17 ⟨rfl, hO0_17, hB17⟩
      have hb17 := next hb16 hB17
      have hS0_17 := hS0_16.below hB17
      have hS1_17 := hS1_16.below hB17
      clear hS0_16 hS1_16
      have hlt0_17 := hO0_17.lt
      go_wp2_with fail
      refine (toIntS_any _ _ _ _ (hA1.below hb17) hl1s).mono ?_
      rintro e w18 ⟨rfl, hO1_18, hB18⟩
      have hb18 := next hb17 hB18
      have hS0_18 := hS0_17.below hB18
      have hS1_18 := hS1_17.below hB18
      have hO0_18 := hO0_17.below hB18
      clear hS0_17 hS1_17 hO0_17
      have hlt1_18 := hO1_18.lt
      go_wp2_with fail
      refine (implFlowEnds_any _ _ _ _ _ _ _ hO0_18.at_ hl0s hO1_18.at_ hl1s).mono ?_
      rintro e w19 ⟨v2, rfl, hS2, hB19⟩
      rw [HX.out] at hS2
      obtain ⟨A2_, c2_, rfl, -⟩ := hS2.form
      have hb19 := next hb18 hB19
      have hS0_19 := hS0_18.below hB19
      have hS1_19 := hS1_18.below hB19
      have hO0_19 := hO0_18.below hB19
      have hO1_19 := hO1_18.below hB19
      clear hS0_18 hS1_18 hO0_18 hO1_18
      have hS2_19 := hS2
      go_wp2_with fail
      refine (eqIntS_same _ _ _ _ _ _ hS2_19.ints hS0_19.ints hn).mono ?_
      rintro e w20 ⟨rfl, hB20⟩
      have hb20 := next hb19 hB20
      have hS0_20 := hS0_19.below hB20
      have hS1_20 := hS1_19.below hB20
      clear hS0_19 hS1_19
      go_wp2_with fail
      refine (heldIntS_any _ _ _ _ _ hS1_20.ints hn (by omega) (by omega)).mono ?_
      rintro e wh ⟨rfl, rfl⟩
      go_wp2_with fail
      go_ret
      exact ⟨rfl, hb20⟩
  · go_enter Try.func5, Try.ntmps5
    go_wp2_with fail
    go_ret
    exact ⟨rfl, by go_grown⟩

theorem exactFlowEnds_contract (H : Type) (enc : TypeId × Value → H) (W : World) (base : Nat) (args : Array Value) (ds gs : List (DataW H)) (before : List MemPlace)
    (hval : ∀ (j : Nat) t v, Try.f5.params[j]? = some t → args[j]? = some v → Value.okWide Try.prog W .any base t v)
    (hW : DataW.Whole enc Try.prog Try.f5.params.toList Rows.fnExactFlowEndsSpec.vars false W args.toList ds gs before) :
    Calls Try.prog 5 args W fun e W' => ∃ v, e = .returned v ∧ Rows.fnExactFlowEndsSpec.post enc Try.prog Try.f5 false true false false W args v W' := by
  have hW' := hW
  obtain ⟨p, q, hA, hV, rfl, _, _⟩ := hW
  obtain ⟨rfl, rfl⟩ := trodVars_none hV
  rw [Try.params5] at hA
  obtain ⟨v0, vs0, d0, ds0, p0, q0, hargs, rfl, rfl, h0, r0⟩ := trodAll_cons hA
  obtain ⟨v1, vs1, d1, ds1, p1, q1, rfl, rfl, rfl, h1, r1⟩ := trodAll_cons r0
  obtain ⟨rfl, rfl, rfl⟩ := trodAll_nil r1
  obtain rfl : args = #[v0, v1] := by cases args; simp_all
  obtain ⟨a0, len0, cap0, rfl⟩ := okWide_slice Try.underlying22 (hval 0 22 v0 rfl rfl)
  obtain ⟨fuel0, hf0⟩ := h0
  obtain ⟨A0, c0, l0, hcs0, hI0, hl0⟩ := open_dishes hf0
  simp [Value.cells] at hcs0
  obtain ⟨rfl, rfl, rfl⟩ := hcs0
  obtain ⟨a1, len1, cap1, rfl⟩ := okWide_slice Try.underlying29 (hval 1 29 v1 rfl rfl)
  obtain ⟨fuel1, hf1⟩ := h1
  obtain ⟨A1, c1, l1, hcs1, hI1, hl1⟩ := open_numbers hf1
  simp [Value.cells] at hcs1
  obtain ⟨rfl, rfl, rfl⟩ := hcs1
  refine (exactFlowEnds_any _ _ _ _ _ _ W hI0 hl0 hI1 hl1).mono fun e W' ⟨he, hb⟩ => ?_
  subst he
  have hts : ∀ t ∈ Try.f5.params.toList, Try.prog.readableRec t = true ∧ t < Try.prog.types.size := by
    rw [Try.params5]
    intro t ht
    simp only [List.mem_cons, List.not_mem_nil, or_false] at ht
    rcases ht with rfl | rfl <;> exact ⟨by kernel_rfl, of_decide_eq_true (by kernel_rfl)⟩
  exact ⟨_, rfl, post_true hW' rfl rfl Try.underlying4 hts rfl rfl rfl hb⟩

set_option maxRecDepth 100000 in
theorem exactFlowEnds_holds : Rows.FnExactFlowEndsSaid :=
  OpenClaim.holds_of_wide 5 Try.f5 rfl rfl rfl rfl rfl rfl rfl ⟨rfl, rfl, rfl, rfl, rfl⟩ rfl rfl rfl rfl rfl (by kernel_rfl) Try.func5 (by kernel_rfl)
    (of_decide_eq_true (by kernel_rfl)) (by unfold Func.isWrapper; first | (rw [if_pos (by decide +kernel)]; kernel_rfl) | (rw [if_neg (by decide +kernel)]; exact ⟨rfl, rfl⟩))
    (fun os started H enc _ => returnsInHanded_of_change (C := Try.checked) own started (by kernel_rfl) Try.func5
      (ChangeSpec.witness6 (enc := enc) (C := Try.checked) false ⟨#[], #[.slice none 0 0, .slice none 0 0], []⟩ 8 (by kernel_rfl) (by kernel_rfl) (by kernel_rfl) (by kernel_rfl))
      (fun W base args ds gs before hval hW _ _ => exactFlowEnds_contract H enc W base args ds gs before hval hW))
end Go.Proofs.Ytcdcndliooehnaa
