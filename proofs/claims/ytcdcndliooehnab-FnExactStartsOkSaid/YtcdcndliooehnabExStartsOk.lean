/- For every list of tasks, every list of numbers the exact law of StartsOk answers true, and its arguments read as they did.
   Conditions: none. -/
import Derived.Test.YtcdcndliooehnabRead2
import Derived.Test.YtcdcndliooehnabExKit
import Derived.Test.YtcdcndliooehnabStarts
namespace Go.Proofs.Ytcdcndliooehnab
open Go.RowKit Go.ChangeShapes Go.WideShapes Go.ChangeAt

set_option maxRecDepth 100000 in
set_option maxHeartbeats 2000000 in
theorem exactStartsOk_any (A0 A1 : Option Addr) (c0 c1 : Nat) (x0 : List Task) (x1 : List Int) (w : World) (hA0 : TasksAt w A0 x0) (hl0 : x0.length ≤ 9223372036854775807) (hp0 : ∀ x ∈ x0, x.after.length ≤ 9223372036854775807) (hA1 : IntsAt w A1 x1) (hl1 : x1.length ≤ 9223372036854775807) :
    Calls Try.prog 5 #[.slice A0 x0.length c0, .slice A1 x1.length c1] w fun e w' => e = .returned (.bool true) ∧ Below w.heap.size w w' := by
  have HP0 := hide hp0
  clear hp0
  by_cases hl1s : x1.length ≤ 1048576
  · by_cases h0z : szTs (1048576) x0 < 0
    · go_enter Try.func5, Try.ntmps5
      go_wp2_with fail
      refine (szTaskS_any _ _ _ _ _ hA0 (by omega) (by omega) hl0 HP0.out).mono ?_
      rintro e w1 ⟨rfl, hB1⟩
      have hb1 := hB1
      go_wp2_with fail
      go_ret
      exact ⟨rfl, hb1⟩
    · obtain ⟨hl0s, hp0s⟩ := szTs_le (by omega) h0z
      have HQ0 := hide hp0s
      clear hp0s
      have hbb : (startsOkL x0 x1 != startsOkL x0 x1) = false := by simp
      go_enter Try.func5, Try.ntmps5
      go_wp2_with fail
      refine (szTaskS_any _ _ _ _ _ hA0 (by omega) (by omega) hl0 HP0.out).mono ?_
      rintro e w1 ⟨rfl, hB1⟩
      have hb1 := hB1
      go_wp2_with fail
      refine (toTaskS_any _ _ _ _ (hA0.below hb1) hl0s HQ0.out).mono ?_
      rintro e w2 ⟨rfl, hO0_2, hB2⟩
      have hb2 := next hb1 hB2
      go_wp2_with fail
      refine (toIntS_any _ _ _ _ (hA1.below hb2) hl1s).mono ?_
      rintro e w3 ⟨rfl, hO1_3, hB3⟩
      have hb3 := next hb2 hB3
      have hO0_3 := hO0_2.below hB3
      clear hO0_2
      go_wp2_with fail
      refine (specStartsOk_any _ _ _ _ _ _ _ hO0_3.at_ hl0s HQ0.out hO1_3.at_ hl1s).mono ?_
      rintro e w4 ⟨rfl, hB4⟩
      have hb4 := next hb3 hB4
      have hO0_4 := hO0_3.below hB4
      have hO1_4 := hO1_3.below hB4
      clear hO0_3 hO1_3
      go_wp2_with fail
      refine (toTaskS_any _ _ _ _ (hA0.below hb4) hl0s HQ0.out).mono ?_
      rintro e w5 ⟨rfl, hO0_5, hB5⟩
      have hb5 := next hb4 hB5
      go_wp2_with fail
      refine (toIntS_any _ _ _ _ (hA1.below hb5) hl1s).mono ?_
      rintro e w6 ⟨rfl, hO1_6, hB6⟩
      have hb6 := next hb5 hB6
      have hO0_6 := hO0_5.below hB6
      clear hO0_5
      go_wp2_with fail
      refine (implStartsOk_any _ _ _ _ _ _ _ hO0_6.at_ hl0s HQ0.out hO1_6.at_ hl1s).mono ?_
      rintro e w7 ⟨rfl, hB7⟩
      have hb7 := next hb6 hB7
      have hO0_7 := hO0_6.below hB7
      have hO1_7 := hO1_6.below hB7
      clear hO0_6 hO1_6
      go_wp2_with fail
      refine (toTaskS_any _ _ _ _ (hA0.below hb7) hl0s HQ0.out).mono ?_
      rintro e w8 ⟨rfl, hV0_8, hB8⟩
      have hb8 := next hb7 hB8
      have hO0_8 := hO0_7.below hB8
      have hO1_8 := hO1_7.below hB8
      clear hO0_7 hO1_7
      go_wp2_with fail
      refine (eqTaskS_same _ _ _ _ _ _ hO0_8.at_ hV0_8.at_ hl0s HQ0.out).mono ?_
      rintro e w9 ⟨rfl, hB9⟩
      have hb9 := next hb8 hB9
      have hO1_9 := hO1_8.below hB9
      clear hO1_8
      go_wp2_with fail
      refine (toIntS_any _ _ _ _ (hA1.below hb9) hl1s).mono ?_
      rintro e w10 ⟨rfl, hV1_10, hB10⟩
      have hb10 := next hb9 hB10
      have hO1_10 := hO1_9.below hB10
      clear hO1_9
      go_wp2_with fail
      refine (eqIntS_same _ _ _ _ _ _ hO1_10.at_ hV1_10.at_ hl1s).mono ?_
      rintro e w11 ⟨rfl, hB11⟩
      have hb11 := next hb10 hB11
      go_wp2_with fail
      go_ret
      exact ⟨rfl, hb11⟩
  · go_enter Try.func5, Try.ntmps5
    go_wp2_with fail
    go_ret
    exact ⟨rfl, by go_grown⟩

theorem exactStartsOk_contract (H : Type) (enc : TypeId × Value → H) (W : World) (base : Nat) (args : Array Value) (ds gs : List (DataW H)) (before : List MemPlace)
    (hval : ∀ (j : Nat) t v, Try.f5.params[j]? = some t → args[j]? = some v → Value.okWide Try.prog W .any base t v)
    (hW : DataW.Whole enc Try.prog Try.f5.params.toList Rows.fnExactStartsOkSpec.vars false W args.toList ds gs before) :
    Calls Try.prog 5 args W fun e W' => ∃ v, e = .returned v ∧ Rows.fnExactStartsOkSpec.post enc Try.prog Try.f5 false true false false W args v W' := by
  have hW' := hW
  obtain ⟨p, q, hA, hV, rfl, _, _⟩ := hW
  obtain ⟨rfl, rfl⟩ := trodVars_none hV
  rw [Try.params5] at hA
  obtain ⟨v0, vs0, d0, ds0, p0, q0, hargs, rfl, rfl, h0, r0⟩ := trodAll_cons hA
  obtain ⟨v1, vs1, d1, ds1, p1, q1, rfl, rfl, rfl, h1, r1⟩ := trodAll_cons r0
  obtain ⟨rfl, rfl, rfl⟩ := trodAll_nil r1
  obtain rfl : args = #[v0, v1] := by cases args; simp_all
  obtain ⟨a0, len0, cap0, rfl⟩ := okWide_slice Try.underlying27 (hval 0 27 v0 rfl rfl)
  obtain ⟨fuel0, hf0⟩ := h0
  obtain ⟨A0, c0, l0, hcs0, hI0, hl0, hp0⟩ := open_tasks hf0
  simp [Value.cells] at hcs0
  obtain ⟨rfl, rfl, rfl⟩ := hcs0
  obtain ⟨a1, len1, cap1, rfl⟩ := okWide_slice Try.underlying22 (hval 1 22 v1 rfl rfl)
  obtain ⟨fuel1, hf1⟩ := h1
  obtain ⟨A1, c1, l1, hcs1, hI1, hl1⟩ := open_numbers hf1
  simp [Value.cells] at hcs1
  obtain ⟨rfl, rfl, rfl⟩ := hcs1
  refine (exactStartsOk_any _ _ _ _ _ _ W hI0 hl0 hp0 hI1 hl1).mono fun e W' ⟨he, hb⟩ => ?_
  subst he
  have hts : ∀ t ∈ Try.f5.params.toList, Try.prog.readableRec t = true ∧ t < Try.prog.types.size := by
    rw [Try.params5]
    intro t ht
    simp only [List.mem_cons, List.not_mem_nil, or_false] at ht
    rcases ht with rfl | rfl <;> exact ⟨by kernel_rfl, of_decide_eq_true (by kernel_rfl)⟩
  exact ⟨_, rfl, post_true hW' rfl rfl Try.underlying4 hts rfl rfl rfl hb⟩

set_option maxRecDepth 100000 in
theorem exactStartsOk_holds : Rows.FnExactStartsOkSaid :=
  OpenClaim.holds_of_wide 5 Try.f5 rfl rfl rfl rfl rfl rfl rfl ⟨rfl, rfl, rfl, rfl, rfl⟩ rfl rfl rfl rfl rfl (by kernel_rfl) Try.func5 (by kernel_rfl)
    (of_decide_eq_true (by kernel_rfl)) (by unfold Func.isWrapper; first | (rw [if_pos (by decide +kernel)]; kernel_rfl) | (rw [if_neg (by decide +kernel)]; exact ⟨rfl, rfl⟩))
    (fun os started H enc _ => returnsInHanded_of_change (C := Try.checked) own started (by kernel_rfl) Try.func5
      (ChangeSpec.witness6 (enc := enc) (C := Try.checked) false ⟨#[], #[.slice none 0 0, .slice none 0 0], []⟩ 8 (by kernel_rfl) (by kernel_rfl) (by kernel_rfl) (by kernel_rfl))
      (fun W base args ds gs before hval hW _ _ => exactStartsOk_contract H enc W base args ds gs before hval hW))
end Go.Proofs.Ytcdcndliooehnab
