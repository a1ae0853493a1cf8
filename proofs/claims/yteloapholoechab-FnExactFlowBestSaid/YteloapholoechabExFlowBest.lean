/- For every list of dishes the exact law of FlowBest answers true, and its arguments read as they did.
   Conditions: none. -/
import Derived.Test.YteloapholoechabRead2
import Derived.Test.YteloapholoechabExKit
import Derived.Test.YteloapholoechabFlow4
import Derived.Test.YteloapholoechabFlow5
import Derived.Test.YteloapholoechabMarks2
import Derived.Test.YteloapholoechabSlKit
namespace Go.Proofs.Yteloapholoechab
open Go.RowKit Go.ChangeShapes Go.WideShapes Go.ChangeAt

set_option maxRecDepth 100000 in
set_option maxHeartbeats 2000000 in
theorem exactFlowBest_any (A0 : Option Addr) (c0 : Nat) (x0 : List Dish) (w : World) (hA0 : DishesAt w A0 x0) (hl0 : x0.length ≤ 9223372036854775807) :
    Calls Try.prog 3 #[.slice A0 x0.length c0] w fun e w' => e = .returned (.bool true) ∧ Below w.heap.size w w' := by
  by_cases h0z : szP 1048576 x0.length < 0
  · go_enter Try.func3, Try.ntmps3
    go_wp2_with fail
    refine (szDishS_b _ _ _ _ _ (by omega) (by omega) hl0).mono ?_
    rintro e w1 ⟨rfl, hB1⟩
    have hb1 := hB1
    go_wp2_with fail
    go_ret
    exact ⟨rfl, hb1⟩
  · have hl0s : x0.length ≤ 1048576 := by have := szP_le h0z; omega
    have hn : (flowBestL x0).length ≤ 1048576 := Nat.le_trans (flowBestL_len _) hl0s
    obtain ⟨xs, HX⟩ : ∃ xs, Hid (flowBestL x0 = xs) := ⟨_, hide rfl⟩
    rw [HX.out] at hn
    have hne : (1 + (xs.length : Int) != 1 + (xs.length : Int)) = false := by simp
    go_enter Try.func3, Try.ntmps3
    go_wp2_with fail
    refine (szDishS_b _ _ _ _ _ (by omega) (by omega) hl0).mono ?_
    rintro e w1 ⟨rfl, hB1⟩
    have hb1 := hB1
    go_wp2_with fail
    refine (toDishS_any _ _ _ _ (hA0.below hb1) hl0s).mono ?_
    rintro e w2 ⟨rfl, hO0_2, hB2⟩
    have hb2 := next hb1 hB2
    have hlt0_2 := hO0_2.lt
    go_wp2_with fail
    refine (specFlowBest_any _ _ _ _ hO0_2.at_ hl0s).mono ?_
    rintro e w3 ⟨v0, rfl, hS0, hB3⟩
    rw [HX.out] at hS0
    obtain ⟨A0_, c0_, rfl, -⟩ := hS0.form
    have hb3 := next hb2 hB3
    have hO0_3 := hO0_2.below hB3
    clear hO0_2
    have hS0_3 := hS0
    go_wp2_with fail
    refine (toDishS_any _ _ _ _ (hA0.below hb3) hl0s).mono ?_
    rintro e w4 ⟨rfl, hO0_4, hB4⟩
    have hb4 := next hb3 hB4
    have hS0_4 := hS0_3.below hB4
    clear hS0_3
    have hlt0_4 := hO0_4.lt
    go_wp2_with fail
    refine (implFlowBest_any _ _ _ _ hO0_4.at_ hl0s).mono ?_
    rintro e w5 ⟨v1, rfl, hS1, hB5⟩
    rw [HX.out] at hS1
    obtain ⟨A1_, c1_, rfl, -⟩ := hS1.form
    have hb5 := next hb4 hB5
    have hS0_5 := hS0_4.below hB5
    have hO0_5 := hO0_4.below hB5
    clear hS0_4 hO0_4
    have hS1_5 := hS1
    go_wp2_with fail
    refine (eqIntS_same _ _ _ _ _ _ hS1_5.ints hS0_5.ints hn).mono ?_
    rintro e w6 ⟨rfl, hB6⟩
    have hb6 := next hb5 hB6
    have hS0_6 := hS0_5.below hB6
    have hO0_6 := hO0_5.below hB6
    have hS1_6 := hS1_5.below hB6
    clear hS0_5 hO0_5 hS1_5
    go_wp2_with fail
    refine (toDishS_any _ _ _ _ (hA0.below hb6) hl0s).mono ?_
    rintro e w7 ⟨rfl, hV0_7, hB7⟩
    have hb7 := next hb6 hB7
    have hS0_7 := hS0_6.below hB7
    have hO0_7 := hO0_6.below hB7
    have hS1_7 := hS1_6.below hB7
    clear hS0_6 hO0_6 hS1_6
    go_wp2_with fail
    refine (eqDishS_same _ _ _ _ _ _ hO0_7.at_ hV0_7.at_ hl0s).mono ?_
    rintro e w8 ⟨rfl, hB8⟩
    have hb8 := next hb7 hB8
    have hS0_8 := hS0_7.below hB8
    have hO0_8 := hO0_7.below hB8
    have hS1_8 := hS1_7.below hB8
    clear hS0_7 hO0_7 hS1_7
    have hz4 := hB4.size
    have hz5 := hB5.size
    have hz6 := hB6.size
    have hz7 := hB7.size
    have hz8 := hB8.size
    have hlt0 := hlt0_4
    have HD0_0 : Hid ((Value.slice A0_ xs.length c0_).ownBlock = none ∨ (Value.slice A0_ xs.length c0_).ownBlock ≠ some w3.heap.size) := hide (by
      cases e0 : (Value.slice A0_ xs.length c0_).ownBlock with
      | none => exact .inl rfl
      | some k => exact .inr (fun e => by injection e with e; have := hS0.lt k e0; omega))
    have HD1_0 : Hid ((Value.slice A1_ xs.length c1_).ownBlock = none ∨ (Value.slice A1_ xs.length c1_).ownBlock ≠ some w3.heap.size) := hide (by
      cases e0 : (Value.slice A1_ xs.length c1_).ownBlock with
      | none => exact .inl rfl
      | some k => exact .inr (fun e => by injection e with e; have := hS1.lt k e0; omega))
    have HD01 : Hid ((Value.slice A0_ xs.length c0_).ownBlock = none ∨ (Value.slice A0_ xs.length c0_).ownBlock ≠ (Value.slice A1_ xs.length c1_).ownBlock) := hide (by
      cases e0 : (Value.slice A0_ xs.length c0_).ownBlock with
      | none => exact .inl rfl
      | some k => exact .inr (fun e1 => by have a := hS0.lt k e0; have b := hS1.lt k e1.symm; omega))
    have HGE : Hid (∀ k, (Value.slice A1_ xs.length c1_).ownBlock = some k → w.heap.size ≤ k) := hide (fun k hk => by have a := (hS1.lt k hk).1; have b := hb4.size; omega)
    have HW0 : Hid (w.heap.size ≤ w3.heap.size) := hide hb3.size
    have hM0_8 := hO0_8.sl (Nat.le_refl _) hl0s
    clear hS0 hS1 hO0_8 hB1 hB2 hB3 hB4 hB5 hB6 hB7 hB8 hz4 hz5 hz6 hz7 hz8 hlt0
    go_wp2_with fail
    refine (markDishS_any _ _ _ _ _ _ hM0_8 hl0s (by omega) (by omega)).mono ?_
    rintro e w9 ⟨rfl, -, hg9⟩
    have hb9 : Below w.heap.size w w9 := hb8.grown hg9 hb8.size (fun k hk => by have hk : some w3.heap.size = some k := hk; injection hk with hk; have := HW0.out; omega)
    have hS0_9 := hS0_8.row hg9 HD0_0.out
    have hS1_9 := hS1_8.row hg9 HD1_0.out
    clear hg9 hM0_8 hS0_8 hS1_8 
    have hr : 0 ≤ 1 + 2 * (x0.length : Int) := by omega
    go_wp2_with fail
    refine (eqIntS_same _ _ _ _ _ _ hS1_9.ints hS0_9.ints hn).mono ?_
    rintro e w10 ⟨rfl, hB10⟩
    have hb10 := next hb9 hB10
    have hS0_10 := hS0_9.below hB10
    have hS1_10 := hS1_9.below hB10
    clear hS0_9 hS1_9
    go_wp2_with fail
    refine (markIntS_any _ _ _ _ _ _ hS1_10 hn (by omega) (by omega)).mono ?_
    rintro e w11 ⟨rfl, hS1_11, hg11⟩
    have hb11 : Below w.heap.size w w11 := hb10.grown hg11 hb10.size HGE.out
    have hS0_11 := hS0_10.row hg11 HD01.out
    clear hg11 hS0_10 hS1_10
    go_wp2_with fail
    refine (heldIntS_any _ _ _ _ _ hS1_11.ints hn (by omega) (by omega)).mono ?_
    rintro e wh ⟨rfl, rfl⟩
    go_wp2_with fail
    refine (toDishS_any _ _ _ _ (hA0.below hb11) hl0s).mono ?_
    rintro e w12 ⟨rfl, hO0_12, hB12⟩
    have hb12 := next hb11 hB12
    have hS0_12 := hS0_11.below hB12
    have hS1_12 := hS1_11.below hB12
    clear hS0_11 hS1_11
    have hlt0_12 := hO0_12.lt
    go_wp2_with fail
    refine (implFlowBest_any _ _ _ _ hO0_12.at_ hl0s).mono ?_
    rintro e w13 ⟨v2, rfl, hS2, hB13⟩
    rw [HX.out] at hS2
    obtain ⟨A2_, c2_, rfl, -⟩ := hS2.form
    have hb13 := next hb12 hB13
    have hS0_13 := hS0_12.below hB13
    have hS1_13 := hS1_12.below hB13
    have hO0_13 := hO0_12.below hB13
    clear hS0_12 hS1_12 hO0_12
    have hS2_13 := hS2
    go_wp2_with fail
    refine (eqIntS_same _ _ _ _ _ _ hS2_13.ints hS0_13.ints hn).mono ?_
    rintro e w14 ⟨rfl, hB14⟩
    have hb14 := next hb13 hB14
    have hS0_14 := hS0_13.below hB14
    have hS1_14 := hS1_13.below hB14
    clear hS0_13 hS1_13
    go_wp2_with fail
    refine (heldIntS_any _ _ _ _ _ hS1_14.ints hn (by omega) (by omega)).mono ?_
    rintro e wh ⟨rfl, rfl⟩
    go_wp2_with fail
    go_ret
    exact ⟨rfl, hb14⟩

theorem exactFlowBest_contract (H : Type) (enc : TypeId × Value → H) (W : World) (base : Nat) (args : Array Value) (ds gs : List (DataW H)) (before : List MemPlace)
    (hval : ∀ (j : Nat) t v, Try.f3.params[j]? = some t → args[j]? = some v → Value.okWide Try.prog W .any base t v)
    (hW : DataW.Whole enc Try.prog Try.f3.params.toList Rows.fnExactFlowBestSpec.vars false W args.toList ds gs before) :
    Calls Try.prog 3 args W fun e W' => ∃ v, e = .returned v ∧ Rows.fnExactFlowBestSpec.post enc Try.prog Try.f3 false true false false W args v W' := by
  have hW' := hW
  obtain ⟨p, q, hA, hV, rfl, _, _⟩ := hW
  obtain ⟨rfl, rfl⟩ := trodVars_none hV
  rw [Try.params3] at hA
  obtain ⟨v0, vs0, d0, ds0, p0, q0, hargs, rfl, rfl, h0, r0⟩ := trodAll_cons hA
  obtain ⟨rfl, rfl, rfl⟩ := trodAll_nil r0
  obtain rfl : args = #[v0] := by cases args; simp_all
  obtain ⟨a0, len0, cap0, rfl⟩ := okWide_slice Try.underlying22 (hval 0 22 v0 rfl rfl)
  obtain ⟨fuel0, hf0⟩ := h0
  obtain ⟨A0, c0, l0, hcs0, hI0, hl0⟩ := open_dishes hf0
  simp [Value.cells] at hcs0
  obtain ⟨rfl, rfl, rfl⟩ := hcs0
  refine (exactFlowBest_any _ _ _ W hI0 hl0).mono fun e W' ⟨he, hb⟩ => ?_
  subst he
  have hts : ∀ t ∈ Try.f3.params.toList, Try.prog.readableRec t = true ∧ t < Try.prog.types.size := by
    rw [Try.params3]
    intro t ht
    simp only [List.mem_cons, List.not_mem_nil, or_false] at ht
    rcases ht with rfl <;> exact ⟨by kernel_rfl, of_decide_eq_true (by kernel_rfl)⟩
  exact ⟨_, rfl, post_true hW' rfl rfl Try.underlying4 hts rfl rfl rfl hb⟩

set_option maxRecDepth 100000 in
theorem exactFlowBest_holds : Rows.FnExactFlowBestSaid :=
  OpenClaim.holds_of_wide 3 Try.f3 rfl rfl rfl rfl rfl rfl rfl ⟨rfl, rfl, rfl, rfl, rfl⟩ rfl rfl rfl rfl rfl (by kernel_rfl) Try.func3 (by kernel_rfl)
    (of_decide_eq_true (by kernel_rfl)) (by unfold Func.isWrapper; first | (rw [if_pos (by decide +kernel)]; kernel_rfl) | (rw [if_neg (by decide +kernel)]; exact ⟨rfl, rfl⟩))
    (fun os started H enc _ => returnsInHanded_of_change (C := Try.checked) own started (by kernel_rfl) Try.func3
      (ChangeSpec.witness6 (enc := enc) (C := Try.checked) false ⟨#[], #[.slice none 0 0], []⟩ 8 (by kernel_rfl) (by kernel_rfl) (by kernel_rfl) (by kernel_rfl))
      (fun W base args ds gs before hval hW _ _ => exactFlowBest_contract H enc W base args ds gs before hval hW))
end Go.Proofs.Yteloapholoechab
