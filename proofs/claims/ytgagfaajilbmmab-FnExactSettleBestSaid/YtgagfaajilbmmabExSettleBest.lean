/- For every list of numbers the exact law of SettleBest answers true, and its arguments read as they did.
   Conditions: none. -/
import Derived.Test.YtgagfaajilbmmabRead2
import Derived.Test.YtgagfaajilbmmabExKit
import Derived.Test.YtgagfaajilbmmabGrpImpl
import Derived.Test.YtgagfaajilbmmabGrpSpec2
import Derived.Test.YtgagfaajilbmmabMarks2
import Derived.Test.YtgagfaajilbmmabPays
import Derived.Test.YtgagfaajilbmmabSlKit
namespace Go.Proofs.Ytgagfaajilbmmab
open Go.RowKit Go.ChangeShapes Go.WideShapes Go.ChangeAt

set_option maxRecDepth 100000 in
set_option maxHeartbeats 2000000 in
theorem exactSettleBest_any (A0 : Option Addr) (c0 : Nat) (x0 : List Int) (w : World) (hA0 : IntsAt w A0 x0) (hl0 : x0.length ≤ 9223372036854775807) :
    Calls Try.prog 4 #[.slice A0 x0.length c0] w fun e w' => e = .returned (.bool true) ∧ Below w.heap.size w w' := by
  by_cases hl0s : x0.length ≤ 1048576
  · have hn : (settleBestL x0).length ≤ 1048576 := settleBestL_len _
    obtain ⟨xs, HX⟩ : ∃ xs, Hid (settleBestL x0 = xs) := ⟨_, hide rfl⟩
    rw [HX.out] at hn
    have hne : (1 + 3 * (xs.length : Int) != 1 + 3 * (xs.length : Int)) = false := by simp
    go_enter Try.func4, Try.ntmps4
    go_wp2_with fail
    refine (toIntS_any _ _ _ _ hA0 hl0s).mono ?_
    rintro e w1 ⟨rfl, hO0_1, hB1⟩
    have hb1 := hB1
    have hlt0_1 := hO0_1.lt
    go_wp2_with fail
    refine (specSettleBest_any _ _ _ _ hO0_1.at_ hl0s).mono ?_
    rintro e w2 ⟨v0, rfl, hS0, hB2⟩
    rw [HX.out] at hS0
    obtain ⟨A0_, c0_, rfl, -⟩ := hS0.form
    have hb2 := next hb1 hB2
    have hO0_2 := hO0_1.below hB2
    clear hO0_1
    have hS0_2 := hS0
    go_wp2_with fail
    refine (toIntS_any _ _ _ _ (hA0.below hb2) hl0s).mono ?_
    rintro e w3 ⟨rfl, hO0_3, hB3⟩
    have hb3 := next hb2 hB3
    have hS0_3 := hS0_2.below hB3
    clear hS0_2
    have hlt0_3 := hO0_3.lt
    go_wp2_with fail
    refine (implSettleBest_any _ _ _ _ hO0_3.at_ hl0s).mono ?_
    rintro e w4 ⟨v1, rfl, hS1, hB4⟩
    rw [HX.out] at hS1
    obtain ⟨A1_, c1_, rfl, -⟩ := hS1.form
    have hb4 := next hb3 hB4
    have hS0_4 := hS0_3.below hB4
    have hO0_4 := hO0_3.below hB4
    clear hS0_3 hO0_3
    have hS1_4 := hS1
    go_wp2_with fail
    refine (eqPayS_same _ _ _ _ _ _ hS1_4.pays hS0_4.pays hn).mono ?_
    rintro e w5 ⟨rfl, hB5⟩
    have hb5 := next hb4 hB5
    have hS0_5 := hS0_4.below hB5
    have hO0_5 := hO0_4.below hB5
    have hS1_5 := hS1_4.below hB5
    clear hS0_4 hO0_4 hS1_4
    go_wp2_with fail
    refine (toIntS_any _ _ _ _ (hA0.below hb5) hl0s).mono ?_
    rintro e w6 ⟨rfl, hV0_6, hB6⟩
    have hb6 := next hb5 hB6
    have hS0_6 := hS0_5.below hB6
    have hO0_6 := hO0_5.below hB6
    have hS1_6 := hS1_5.below hB6
    clear hS0_5 hO0_5 hS1_5
    go_wp2_with fail
    refine (eqIntS_same _ _ _ _ _ _ hO0_6.at_ hV0_6.at_ hl0s).mono ?_
    rintro e w7 ⟨rfl, hB7⟩
    have hb7 := next hb6 hB7
    have hS0_7 := hS0_6.below hB7
    have hO0_7 := hO0_6.below hB7
    have hS1_7 := hS1_6.below hB7
    clear hS0_6 hO0_6 hS1_6
    have hz3 := hB3.size
    have hz4 := hB4.size
    have hz5 := hB5.size
    have hz6 := hB6.size
    have hz7 := hB7.size
    have hlt0 := hlt0_3
    have HD0_0 : Hid ((Value.slice A0_ xs.length c0_).ownBlock = none ∨ (Value.slice A0_ xs.length c0_).ownBlock ≠ some w2.heap.size) := hide (by
      cases e0 : (Value.slice A0_ xs.length c0_).ownBlock with
      | none => exact .inl rfl
      | some k => exact .inr (fun e => by injection e with e; have := hS0.lt k e0; omega))
    have HD1_0 : Hid ((Value.slice A1_ xs.length c1_).ownBlock = none ∨ (Value.slice A1_ xs.length c1_).ownBlock ≠ some w2.heap.size) := hide (by
      cases e0 : (Value.slice A1_ xs.length c1_).ownBlock with
      | none => exact .inl rfl
      | some k => exact .inr (fun e => by injection e with e; have := hS1.lt k e0; omega))
    have HD01 : Hid ((Value.slice A0_ xs.length c0_).ownBlock = none ∨ (Value.slice A0_ xs.length c0_).ownBlock ≠ (Value.slice A1_ xs.length c1_).ownBlock) := hide (by
      cases e0 : (Value.slice A0_ xs.length c0_).ownBlock with
      | none => exact .inl rfl
      | some k => exact .inr (fun e1 => by have a := hS0.lt k e0; have b := hS1.lt k e1.symm; omega))
    have HGE : Hid (∀ k, (Value.slice A1_ xs.length c1_).ownBlock = some k → w.heap.size ≤ k) := hide (fun k hk => by have a := (hS1.lt k hk).1; have b := hb3.size; omega)
    have HW0 : Hid (w.heap.size ≤ w2.heap.size) := hide hb2.size
    have hM0_7 := hO0_7.sl (Nat.le_refl _) hl0s
    clear hS0 hS1 hO0_7 hB1 hB2 hB3 hB4 hB5 hB6 hB7 hz3 hz4 hz5 hz6 hz7 hlt0
    go_wp2_with fail
    refine (markIntS_any _ _ _ _ _ _ hM0_7 hl0s (by omega) (by omega)).mono ?_
    rintro e w8 ⟨rfl, -, hg8⟩
    have hb8 : Below w.heap.size w w8 := hb7.grown hg8 hb7.size (fun k hk => by have hk : some w2.heap.size = some k := hk; injection hk with hk; have := HW0.out; omega)
    have hS0_8 := hS0_7.row hg8 HD0_0.out
    have hS1_8 := hS1_7.row hg8 HD1_0.out
    clear hg8 hM0_7 hS0_7 hS1_7 
    have hr : 0 ≤ 1 + (x0.length : Int) := by omega
    go_wp2_with fail
    refine (eqPayS_same _ _ _ _ _ _ hS1_8.pays hS0_8.pays hn).mono ?_
    rintro e w9 ⟨rfl, hB9⟩
    have hb9 := next hb8 hB9
    have hS0_9 := hS0_8.below hB9
    have hS1_9 := hS1_8.below hB9
    clear hS0_8 hS1_8
    go_wp2_with fail
    refine (markPayS_any _ _ _ _ _ _ hS1_9 hn (by omega) (by omega)).mono ?_
    rintro e w10 ⟨rfl, hS1_10, hg10⟩
    have hb10 : Below w.heap.size w w10 := hb9.grown hg10 hb9.size HGE.out
    have hS0_10 := hS0_9.row hg10 HD01.out
    clear hg10 hS0_9 hS1_9
    go_wp2_with fail
    refine (heldPayS_any _ _ _ _ _ hS1_10.pays hn (by omega) (by omega)).mono ?_
    rintro e wh ⟨rfl, rfl⟩
    go_wp2_with fail
    refine (toIntS_any _ _ _ _ (hA0.below hb10) hl0s).mono ?_
    rintro e w11 ⟨rfl, hO0_11, hB11⟩
    have hb11 := next hb10 hB11
    have hS0_11 := hS0_10.below hB11
    have hS1_11 := hS1_10.below hB11
    clear hS0_10 hS1_10
    have hlt0_11 := hO0_11.lt
    go_wp2_with fail
    refine (implSettleBest_any _ _ _ _ hO0_11.at_ hl0s).mono ?_
    rintro e w12 ⟨v2, rfl, hS2, hB12⟩
    rw [HX.out] at hS2
    obtain ⟨A2_, c2_, rfl, -⟩ := hS2.form
    have hb12 := next hb11 hB12
    have hS0_12 := hS0_11.below hB12
    have hS1_12 := hS1_11.below hB12
    have hO0_12 := hO0_11.below hB12
    clear hS0_11 hS1_11 hO0_11
    have hS2_12 := hS2
    go_wp2_with fail
    refine (eqPayS_same _ _ _ _ _ _ hS2_12.pays hS0_12.pays hn).mono ?_
    rintro e w13 ⟨rfl, hB13⟩
    have hb13 := next hb12 hB13
    have hS0_13 := hS0_12.below hB13
    have hS1_13 := hS1_12.below hB13
    clear hS0_12 hS1_12
    go_wp2_with fail
    refine (heldPayS_any _ _ _ _ _ hS1_13.pays hn (by omega) (by omega)).mono ?_
    rintro e wh ⟨rfl, rfl⟩
    go_wp2_with fail
    go_ret
    exact ⟨rfl, hb13⟩
  · go_enter Try.func4, Try.ntmps4
    go_wp2_with fail
    go_ret
    exact ⟨rfl, by go_grown⟩

theorem exactSettleBest_contract (H : Type) (enc : TypeId × Value → H) (W : World) (base : Nat) (args : Array Value) (ds gs : List (DataW H)) (before : List MemPlace)
    (hval : ∀ (j : Nat) t v, Try.f4.params[j]? = some t → args[j]? = some v → Value.okWide Try.prog W .any base t v)
    (hW : DataW.Whole enc Try.prog Try.f4.params.toList Rows.fnExactSettleBestSpec.vars false W args.toList ds gs before) :
    Calls Try.prog 4 args W fun e W' => ∃ v, e = .returned v ∧ Rows.fnExactSettleBestSpec.post enc Try.prog Try.f4 false true false false W args v W' := by
  have hW' := hW
  obtain ⟨p, q, hA, hV, rfl, _, _⟩ := hW
  obtain ⟨rfl, rfl⟩ := trodVars_none hV
  rw [Try.params4] at hA
  obtain ⟨v0, vs0, d0, ds0, p0, q0, hargs, rfl, rfl, h0, r0⟩ := trodAll_cons hA
  obtain ⟨rfl, rfl, rfl⟩ := trodAll_nil r0
  obtain rfl : args = #[v0] := by cases args; simp_all
  obtain ⟨a0, len0, cap0, rfl⟩ := okWide_slice Try.underlying22 (hval 0 22 v0 rfl rfl)
  obtain ⟨fuel0, hf0⟩ := h0
  obtain ⟨A0, c0, l0, hcs0, hI0, hl0⟩ := open_numbers hf0
  simp [Value.cells] at hcs0
  obtain ⟨rfl, rfl, rfl⟩ := hcs0
  refine (exactSettleBest_any _ _ _ W hI0 hl0).mono fun e W' ⟨he, hb⟩ => ?_
  subst he
  have hts : ∀ t ∈ Try.f4.params.toList, Try.prog.readableRec t = true ∧ t < Try.prog.types.size := by
    rw [Try.params4]
    intro t ht
    simp only [List.mem_cons, List.not_mem_nil, or_false] at ht
    rcases ht with rfl <;> exact ⟨by kernel_rfl, of_decide_eq_true (by kernel_rfl)⟩
  exact ⟨_, rfl, post_true hW' rfl rfl Try.underlying4 hts rfl rfl rfl hb⟩

set_option maxRecDepth 100000 in
theorem exactSettleBest_holds : Rows.FnExactSettleBestSaid :=
  OpenClaim.holds_of_wide 4 Try.f4 rfl rfl rfl rfl rfl rfl rfl ⟨rfl, rfl, rfl, rfl, rfl⟩ rfl rfl rfl rfl rfl (by kernel_rfl) Try.func4 (by kernel_rfl)
    (of_decide_eq_true (by kernel_rfl)) (by unfold Func.isWrapper; first | (rw [if_pos (by decide +kernel)]; kernel_rfl) | (rw [if_neg (by decide +kernel)]; exact ⟨rfl, rfl⟩))
    (fun os started H enc _ => returnsInHanded_of_change (C := Try.checked) own started (by kernel_rfl) Try.func4
      (ChangeSpec.witness6 (enc := enc) (C := Try.checked) false ⟨#[], #[.slice none 0 0], []⟩ 8 (by kernel_rfl) (by kernel_rfl) (by kernel_rfl) (by kernel_rfl))
      (fun W base args ds gs before hval hW _ _ => exactSettleBest_contract H enc W base args ds gs before hval hW))
end Go.Proofs.Ytgagfaajilbmmab
