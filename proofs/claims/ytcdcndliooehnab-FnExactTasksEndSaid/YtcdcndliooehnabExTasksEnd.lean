/- For every list of tasks the exact law of TasksEnd answers true, and its arguments read as they did.
   Conditions: none. -/
import Derived.Test.YtcdcndliooehnabRead2
import Derived.Test.YtcdcndliooehnabExKit
import Derived.Test.YtcdcndliooehnabEarly2
import Derived.Test.YtcdcndliooehnabEnds
namespace Go.Proofs.Ytcdcndliooehnab
open Go.RowKit Go.ChangeShapes Go.WideShapes Go.ChangeAt

set_option maxRecDepth 100000 in
set_option maxHeartbeats 2000000 in
theorem exactTasksEnd_any (A0 : Option Addr) (c0 : Nat) (x0 : List Task) (w : World) (hA0 : TasksAt w A0 x0) (hl0 : x0.length ≤ 9223372036854775807) (hp0 : ∀ x ∈ x0, x.after.length ≤ 9223372036854775807) :
    Calls Try.prog 7 #[.slice A0 x0.length c0] w fun e w' => e = .returned (.bool true) ∧ Below w.heap.size w w' := by
  have HP0 := hide hp0
  clear hp0
  by_cases h0z : szTs (1048576) x0 < 0
  · go_enter Try.func7, Try.ntmps7
    go_wp2_with fail
    refine (szTaskS_any _ _ _ _ _ hA0 (by omega) (by omega) hl0 HP0.out).mono ?_
    rintro e w1 ⟨rfl, hB1⟩
    have hb1 := hB1
    go_wp2_with fail
    go_ret
    exact ⟨rfl, hb1⟩
  · obtain ⟨hl0s, hp0s⟩ := szTs_le (by omega) h0z
    have HQ0 := hide hp0s
    clear hp0s
    have hbb : (tasksEndL x0 != tasksEndL x0) = false := by simp
    go_enter Try.func7, Try.ntmps7
    go_wp2_with fail
    refine (szTaskS_any _ _ _ _ _ hA0 (by omega) (by omega) hl0 HP0.out).mono ?_
    rintro e w1 ⟨rfl, hB1⟩
    have hb1 := hB1
    go_wp2_with fail
    refine (toTaskS_any _ _ _ _ (hA0.below hb1) hl0s HQ0.out).mono ?_
    rintro e w2 ⟨rfl, hO0_2, hB2⟩
    have hb2 := next hb1 hB2
    go_wp2_with fail
    refine (specTasksEnd_any _ _ _ _ hO0_2.at_ hl0s HQ0.out).mono ?_
    rintro e w3 ⟨rfl, hB3⟩
    have hb3 := next hb2 hB3
    have hO0_3 := hO0_2.below hB3
    clear hO0_2
    go_wp2_with fail
    refine (toTaskS_any _ _ _ _ (hA0.below hb3) hl0s HQ0.out).mono ?_
    rintro e w4 ⟨rfl, hO0_4, hB4⟩
    have hb4 := next hb3 hB4
    go_wp2_with fail
    refine (implTasksEnd_any _ _ _ _ hO0_4.at_ hl0s HQ0.out).mono ?_
    rintro e w5 ⟨rfl, hB5⟩
    have hb5 := next hb4 hB5
    have hO0_5 := hO0_4.below hB5
    clear hO0_4
    go_wp2_with fail
    refine (toTaskS_any _ _ _ _ (hA0.below hb5) hl0s HQ0.out).mono ?_
    rintro e w6 ⟨rfl, hV0_6, hB6⟩
    have hb6 := next hb5 hB6
    have hO0_6 := hO0_5.below hB6
    clear hO0_5
    go_wp2_with fail
    refine (eqTaskS_same _ _ _ _ _ _ hO0_6.at_ hV0_6.at_ hl0s HQ0.out).mono ?_
    rintro e w7 ⟨rfl, hB7⟩
    have hb7 := next hb6 hB7
    go_wp2_with fail
    go_ret
    exact ⟨rfl, hb7⟩

theorem exactTasksEnd_contract (H : Type) (enc : TypeId × Value → H) (W : World) (base : Nat) (args : Array Value) (ds gs : List (DataW H)) (before : List MemPlace)
    (hval : ∀ (j : Nat) t v, Try.f7.params[j]? = some t → args[j]? = some v → Value.okWide Try.prog W .any base t v)
    (hW : DataW.Whole enc Try.prog Try.f7.params.toList Rows.fnExactTasksEndSpec.vars false W args.toList ds gs before) :
    Calls Try.prog 7 args W fun e W' => ∃ v, e = .returned v ∧ Rows.fnExactTasksEndSpec.post enc Try.prog Try.f7 false true false false W args v W' := by
  have hW' := hW
  obtain ⟨p, q, hA, hV, rfl, _, _⟩ := hW
  obtain ⟨rfl, rfl⟩ := trodVars_none hV
  rw [Try.params7] at hA
  obtain ⟨v0, vs0, d0, ds0, p0, q0, hargs, rfl, rfl, h0, r0⟩ := trodAll_cons hA
  obtain ⟨rfl, rfl, rfl⟩ := trodAll_nil r0
  obtain rfl : args = #[v0] := by cases args; simp_all
  obtain ⟨a0, len0, cap0, rfl⟩ := okWide_slice Try.underlying27 (hval 0 27 v0 rfl rfl)
  obtain ⟨fuel0, hf0⟩ := h0
  obtain ⟨A0, c0, l0, hcs0, hI0, hl0, hp0⟩ := open_tasks hf0
  simp [Value.cells] at hcs0
  obtain ⟨rfl, rfl, rfl⟩ := hcs0
  refine (exactTasksEnd_any _ _ _ W hI0 hl0 hp0).mono fun e W' ⟨he, hb⟩ => ?_
  subst he
  have hts : ∀ t ∈ Try.f7.params.toList, Try.prog.readableRec t = true ∧ t < Try.prog.types.size := by
    rw [Try.params7]
    intro t ht
    simp only [List.mem_cons, List.not_mem_nil, or_false] at ht
    rcases ht with rfl <;> exact ⟨by kernel_rfl, of_decide_eq_true (by kernel_rfl)⟩
  exact ⟨_, rfl, post_true hW' rfl rfl Try.underlying4 hts rfl rfl rfl hb⟩

set_option maxRecDepth 100000 in
theorem exactTasksEnd_holds : Rows.FnExactTasksEndSaid :=
  OpenClaim.holds_of_wide 7 Try.f7 rfl rfl rfl rfl rfl rfl rfl ⟨rfl, rfl, rfl, rfl, rfl⟩ rfl rfl rfl rfl rfl (by kernel_rfl) Try.func7 (by kernel_rfl)
    (of_decide_eq_true (by kernel_rfl)) (by unfold Func.isWrapper; first | (rw [if_pos (by decide +kernel)]; kernel_rfl) | (rw [if_neg (by decide +kernel)]; exact ⟨rfl, rfl⟩))
    (fun os started H enc _ => returnsInHanded_of_change (C := Try.checked) own started (by kernel_rfl) Try.func7
      (ChangeSpec.witness6 (enc := enc) (C := Try.checked) false ⟨#[], #[.slice none 0 0], []⟩ 8 (by kernel_rfl) (by kernel_rfl) (by kernel_rfl) (by kernel_rfl))
      (fun W base args ds gs before hval hW _ _ => exactTasksEnd_contract H enc W base args ds gs before hval hW))
end Go.Proofs.Ytcdcndliooehnab
