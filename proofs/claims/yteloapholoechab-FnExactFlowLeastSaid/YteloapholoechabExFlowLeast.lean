/- For every list of dishes the exact law of FlowLeast answers true, and its arguments read as they did.
   Conditions: none. -/
import Derived.Test.YteloapholoechabRead2
import Derived.Test.YteloapholoechabExKit
import Derived.Test.YteloapholoechabFlow5
namespace Go.Proofs.Yteloapholoechab
open Go.RowKit Go.ChangeShapes Go.WideShapes Go.ChangeAt

set_option maxRecDepth 100000 in
set_option maxHeartbeats 2000000 in
theorem exactFlowLeast_any (A0 : Option Addr) (c0 : Nat) (x0 : List Dish) (w : World) (hA0 : DishesAt w A0 x0) (hl0 : x0.length ≤ 9223372036854775807) :
    Calls Try.prog 4 #[.slice A0 x0.length c0] w fun e w' => e = .returned (.bool true) ∧ Below w.heap.size w w' := by
  by_cases h0z : szP 1048576 x0.length < 0
  · go_enter Try.func4, Try.ntmps4
    go_wp2_with fail
    refine (szDishS_b _ _ _ _ _ (by omega) (by omega) hl0).mono ?_
    rintro e w1 ⟨rfl, hB1⟩
    have hb1 := hB1
    go_wp2_with fail
    go_ret
    exact ⟨rfl, hb1⟩
  · have hl0s : x0.length ≤ 1048576 := by have := szP_le h0z; omega
    have hbb0 : (flowEndL x0 (flowBestL x0) != flowEndL x0 (flowBestL x0)) = false := by simp
    go_enter Try.func4, Try.ntmps4
    go_wp2_with fail
    refine (szDishS_b _ _ _ _ _ (by omega) (by omega) hl0).mono ?_
    rintro e w1 ⟨rfl, hB1⟩
    have hb1 := hB1
    go_wp2_with fail
    refine (toDishS_any _ _ _ _ (hA0.below hb1) hl0s).mono ?_
    rintro e w2 ⟨rfl, hO0_2, hB2⟩
    have hb2 := next hb1 hB2
    go_wp2_with fail
    refine (specFlowLeast_any _ _ _ _ hO0_2.at_ hl0s).mono ?_
    rintro e w3 ⟨rfl, hB3⟩
    have hb3 := next hb2 hB3
    have hO0_3 := hO0_2.below hB3
    clear hO0_2
    go_wp2_with fail
    refine (toDishS_any _ _ _ _ (hA0.below hb3) hl0s).mono ?_
    rintro e w4 ⟨rfl, hO0_4, hB4⟩
    have hb4 := next hb3 hB4
    go_wp2_with fail
    refine (implFlowLeast_any _ _ _ _ hO0_4.at_ hl0s).mono ?_
    rintro e w5 ⟨rfl, hB5⟩
    have hb5 := next hb4 hB5
    have hO0_5 := hO0_4.below hB5
    clear hO0_4
    go_wp2_with fail
    refine (toDishS_any _ _ _ _ (hA0.below hb5) hl0s).mono ?_
    rintro e w6 ⟨rfl, hV0_6, hB6⟩
    have hb6 := next hb5 hB6
    have hO0_6 := hO0_5.below hB6
    clear hO0_5
    go_wp2_with fail
    refine (eqDishS_same _ _ _ _ _ _ hO0_6.at_ hV0_6.at_ hl0s).mono ?_
    rintro e w7 ⟨rfl, hB7⟩
    have hb7 := next hb6 hB7
    go_wp2_with fail
    go_ret
    exact ⟨rfl, hb7⟩

theorem exactFlowLeast_contract (H : Type) (enc : TypeId × Value → H) (W : World) (base : Nat) (args : Array Value) (ds gs : List (DataW H)) (before : List MemPlace)
    (hval : ∀ (j : Nat) t v, Try.f4.params[j]? = some t → args[j]? = some v → Value.okWide Try.prog W .any base t v)
    (hW : DataW.Whole enc Try.prog Try.f4.params.toList Rows.fnExactFlowLeastSpec.vars false W args.toList ds gs before) :
    Calls Try.prog 4 args W fun e W' => ∃ v, e = .returned v ∧ Rows.fnExactFlowLeastSpec.post enc Try.prog Try.f4 false true false false W args v W' := by
  have hW' := hW
  obtain ⟨p, q, hA, hV, rfl, _, _⟩ := hW
  obtain ⟨rfl, rfl⟩ := trodVars_none hV
  rw [Try.params4] at hA
  obtain ⟨v0, vs0, d0, ds0, p0, q0, hargs, rfl, rfl, h0, r0⟩ := trodAll_cons hA
  obtain ⟨rfl, rfl, rfl⟩ := trodAll_nil r0
  obtain rfl : args = #[v0] := by cases args; simp_all
  obtain ⟨a0, len0, cap0, rfl⟩ := okWide_slice Try.underlying22 (hval 0 22 v0 rfl rfl)
  obtain ⟨fuel0, hf0⟩ := h0
  obtain ⟨A0, c0, l0, hcs0, hI0, hl0⟩ := open_dishes hf0
  simp [Value.cells] at hcs0
  obtain ⟨rfl, rfl, rfl⟩ := hcs0
  refine (exactFlowLeast_any _ _ _ W hI0 hl0).mono fun e W' ⟨he, hb⟩ => ?_
  subst he
  have hts : ∀ t ∈ Try.f4.params.toList, Try.prog.readableRec t = true ∧ t < Try.prog.types.size := by
    rw [Try.params4]
    intro t ht
    simp only [List.mem_cons, List.not_mem_nil, or_false] at ht
    rcases ht with rfl <;> exact ⟨by kernel_rfl, of_decide_eq_true (by kernel_rfl)⟩
  exact ⟨_, rfl, post_true hW' rfl rfl Try.underlying4 hts rfl rfl rfl hb⟩

set_option maxRecDepth 100000 in
theorem exactFlowLeast_holds : Rows.FnExactFlowLeastSaid :=
  OpenClaim.holds_of_wide 4 Try.f4 rfl rfl rfl rfl rfl rfl rfl ⟨rfl, rfl, rfl, rfl, rfl⟩ rfl rfl rfl rfl rfl (by kernel_rfl) Try.func4 (by kernel_rfl)
    (of_decide_eq_true (by kernel_rfl)) (by unfold Func.isWrapper; first | (rw [if_pos (by decide +kernel)]; kernel_rfl) | (rw [if_neg (by decide +kernel)]; exact ⟨rfl, rfl⟩))
    (fun os started H enc _ => returnsInHanded_of_change (C := Try.checked) own started (by kernel_rfl) Try.func4
      (ChangeSpec.witness6 (enc := enc) (C := Try.checked) false ⟨#[], #[.slice none 0 0], []⟩ 8 (by kernel_rfl) (by kernel_rfl) (by kernel_rfl) (by kernel_rfl))
      (fun W base args ds gs before hval hW _ _ => exactFlowLeast_contract H enc W base args ds gs before hval hW))
end Go.Proofs.Yteloapholoechab
