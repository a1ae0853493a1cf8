/- For every list of numbers the exact law of GroupsMost answers true, and its arguments read as they did.
   Conditions: none. -/
import Derived.Test.YtgagfaajilbmmaaRead2
import Derived.Test.YtgagfaajilbmmaaExKit
import Derived.Test.YtgagfaajilbmmaaGrpImpl
import Derived.Test.YtgagfaajilbmmaaGrpSpec
namespace Go.Proofs.Ytgagfaajilbmmaa
open Go.RowKit Go.ChangeShapes Go.WideShapes Go.ChangeAt

set_option maxRecDepth 100000 in
set_option maxHeartbeats 2000000 in
theorem exactGroupsMost_any (A0 : Option Addr) (c0 : Nat) (x0 : List Int) (w : World) (hA0 : IntsAt w A0 x0) (hl0 : x0.length ≤ 9223372036854775807) :
    Calls Try.prog 6 #[.slice A0 x0.length c0] w fun e w' => e = .returned (.bool true) ∧ Below w.heap.size w w' := by
  by_cases hl0s : x0.length ≤ 1048576
  · have hbb0 : (groupsMostL x0 != groupsMostL x0) = false := by simp
    go_enter Try.func6, Try.ntmps6
    go_wp2_with fail
    refine (toIntS_any _ _ _ _ hA0 hl0s).mono ?_
    rintro e w1 ⟨rfl, hO0_1, hB1⟩
    have hb1 := hB1
    go_wp2_with fail
    refine (specGroupsMost_any _ _ _ _ hO0_1.at_ hl0s).mono ?_
    rintro e w2 ⟨rfl, hB2⟩
    have hb2 := next hb1 hB2
    have hO0_2 := hO0_1.below hB2
    clear hO0_1
    go_wp2_with fail
    refine (toIntS_any _ _ _ _ (hA0.below hb2) hl0s).mono ?_
    rintro e w3 ⟨rfl, hO0_3, hB3⟩
    have hb3 := next hb2 hB3
    go_wp2_with fail
    refine (implGroupsMost_any _ _ _ _ hO0_3.at_ hl0s).mono ?_
    rintro e w4 ⟨rfl, hB4⟩
    have hb4 := next hb3 hB4
    have hO0_4 := hO0_3.below hB4
    clear hO0_3
    go_wp2_with fail
    refine (toIntS_any _ _ _ _ (hA0.below hb4) hl0s).mono ?_
    rintro e w5 ⟨rfl, hV0_5, hB5⟩
    have hb5 := next hb4 hB5
    have hO0_5 := hO0_4.below hB5
    clear hO0_4
    go_wp2_with fail
    refine (eqIntS_same _ _ _ _ _ _ hO0_5.at_ hV0_5.at_ hl0s).mono ?_
    rintro e w6 ⟨rfl, hB6⟩
    have hb6 := next hb5 hB6
    go_wp2_with fail
    go_ret
    exact ⟨rfl, hb6⟩
  · go_enter Try.func6, Try.ntmps6
    go_wp2_with fail
    go_ret
    exact ⟨rfl, by go_grown⟩

theorem exactGroupsMost_contract (H : Type) (enc : TypeId × Value → H) (W : World) (base : Nat) (args : Array Value) (ds gs : List (DataW H)) (before : List MemPlace)
    (hval : ∀ (j : Nat) t v, Try.f6.params[j]? = some t → args[j]? = some v → Value.okWide Try.prog W .any base t v)
    (hW : DataW.Whole enc Try.prog Try.f6.params.toList Rows.fnExactGroupsMostSpec.vars false W args.toList ds gs before) :
    Calls Try.prog 6 args W fun e W' => ∃ v, e = .returned v ∧ Rows.fnExactGroupsMostSpec.post enc Try.prog Try.f6 false true false false W args v W' := by
  have hW' := hW
  obtain ⟨p, q, hA, hV, rfl, _, _⟩ := hW
  obtain ⟨rfl, rfl⟩ := trodVars_none hV
  rw [Try.params6] at hA
  obtain ⟨v0, vs0, d0, ds0, p0, q0, hargs, rfl, rfl, h0, r0⟩ := trodAll_cons hA
  obtain ⟨rfl, rfl, rfl⟩ := trodAll_nil r0
  obtain rfl : args = #[v0] := by cases args; simp_all
  obtain ⟨a0, len0, cap0, rfl⟩ := okWide_slice Try.underlying23 (hval 0 23 v0 rfl rfl)
  obtain ⟨fuel0, hf0⟩ := h0
  obtain ⟨A0, c0, l0, hcs0, hI0, hl0⟩ := open_numbers hf0
  simp [Value.cells] at hcs0
  obtain ⟨rfl, rfl, rfl⟩ := hcs0
  refine (exactGroupsMost_any _ _ _ W hI0 hl0).mono fun e W' ⟨he, hb⟩ => ?_
  subst he
  have hts : ∀ t ∈ Try.f6.params.toList, Try.prog.readableRec t = true ∧ t < Try.prog.types.size := by
    rw [Try.params6]
    intro t ht
    simp only [List.mem_cons, List.not_mem_nil, or_false] at ht
    rcases ht with rfl <;> exact ⟨by kernel_rfl, of_decide_eq_true (by kernel_rfl)⟩
  exact ⟨_, rfl, post_true hW' rfl rfl Try.underlying4 hts rfl rfl rfl hb⟩

set_option maxRecDepth 100000 in
theorem exactGroupsMost_holds : Rows.FnExactGroupsMostSaid :=
  OpenClaim.holds_of_wide 6 Try.f6 rfl rfl rfl rfl rfl rfl rfl ⟨rfl, rfl, rfl, rfl, rfl⟩ rfl rfl rfl rfl rfl (by kernel_rfl) Try.func6 (by kernel_rfl)
    (of_decide_eq_true (by kernel_rfl)) (by unfold Func.isWrapper; first | (rw [if_pos (by decide +kernel)]; kernel_rfl) | (rw [if_neg (by decide +kernel)]; exact ⟨rfl, rfl⟩))
    (fun os started H enc _ => returnsInHanded_of_change (C := Try.checked) own started (by kernel_rfl) Try.func6
      (ChangeSpec.witness6 (enc := enc) (C := Try.checked) false ⟨#[], #[.slice none 0 0], []⟩ 8 (by kernel_rfl) (by kernel_rfl) (by kernel_rfl) (by kernel_rfl))
      (fun W base args ds gs before hval hW _ _ => exactGroupsMost_contract H enc W base args ds gs before hval hW))
end Go.Proofs.Ytgagfaajilbmmaa
