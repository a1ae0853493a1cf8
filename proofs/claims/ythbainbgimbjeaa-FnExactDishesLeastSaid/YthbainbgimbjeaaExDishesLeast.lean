/- For every number, every list of numbers the exact law of DishesLeast answers true, and its arguments read as they did.
   Conditions: none. -/
import Derived.Test.YthbainbgimbjeaaRead2
import Derived.Test.YthbainbgimbjeaaExKit
import Derived.Test.YthbainbgimbjeaaGuests16
namespace Go.Proofs.Ythbainbgimbjeaa
open Go.RowKit Go.ChangeShapes Go.WideShapes Go.ChangeAt

set_option maxRecDepth 100000 in
set_option maxHeartbeats 2000000 in
theorem exactDishesLeast_any (n0 : Int) (A1 : Option Addr) (c1 : Nat) (x1 : List Int) (w : World)  (hA1 : IntsAt w A1 x1) (hl1 : x1.length ≤ 9223372036854775807) :
    Calls Try.prog 3 #[.int .i64 n0, .slice A1 x1.length c1] w fun e w' => e = .returned (.bool true) ∧ Below w.heap.size w w' := by
  by_cases hl1s : x1.length ≤ 1048576
  · have hbb0 : (dishesLeastL n0 x1 != dishesLeastL n0 x1) = false := by simp
    go_enter Try.func3, Try.ntmps3
    go_wp2_with fail
    refine (toIntS_any _ _ _ _ hA1 hl1s).mono ?_
    rintro e w1 ⟨rfl, hO1_1, hB1⟩
    have hb1 := hB1
    go_wp2_with fail
    refine (specDishesLeast_any _ _ _ _ _ hO1_1.at_ hl1s).mono ?_
    rintro e w2 ⟨rfl, hB2⟩
    have hb2 := next hb1 hB2
    have hO1_2 := hO1_1.below hB2
    clear hO1_1
    go_wp2_with fail
    refine (toIntS_any _ _ _ _ (hA1.below hb2) hl1s).mono ?_
    rintro e w3 ⟨rfl, hO1_3, hB3⟩
    have hb3 := next hb2 hB3
    go_wp2_with fail
    refine (implDishesLeast_any _ _ _ _ _ hO1_3.at_ hl1s).mono ?_
    rintro e w4 ⟨rfl, hB4⟩
    have hb4 := next hb3 hB4
    have hO1_4 := hO1_3.below hB4
    clear hO1_3
    go_wp2_with fail
    refine (toIntS_any _ _ _ _ (hA1.below hb4) hl1s).mono ?_
    rintro e w5 ⟨rfl, hV1_5, hB5⟩
    have hb5 := next hb4 hB5
    have hO1_5 := hO1_4.below hB5
    clear hO1_4
    go_wp2_with fail
    refine (eqIntS_same _ _ _ _ _ _ hO1_5.at_ hV1_5.at_ hl1s).mono ?_
    rintro e w6 ⟨rfl, hB6⟩
    have hb6 := next hb5 hB6
    go_wp2_with fail
    go_ret
    exact ⟨rfl, hb6⟩
  · go_enter Try.func3, Try.ntmps3
    go_wp2_with fail
    go_ret
    exact ⟨rfl, by go_grown⟩

theorem exactDishesLeast_contract (H : Type) (enc : TypeId × Value → H) (W : World) (base : Nat) (args : Array Value) (ds gs : List (DataW H)) (before : List MemPlace)
    (hval : ∀ (j : Nat) t v, Try.f3.params[j]? = some t → args[j]? = some v → Value.okWide Try.prog W .any base t v)
    (hW : DataW.Whole enc Try.prog Try.f3.params.toList Rows.fnExactDishesLeastSpec.vars false W args.toList ds gs before) :
    Calls Try.prog 3 args W fun e W' => ∃ v, e = .returned v ∧ Rows.fnExactDishesLeastSpec.post enc Try.prog Try.f3 false true false false W args v W' := by
  have hW' := hW
  obtain ⟨p, q, hA, hV, rfl, _, _⟩ := hW
  obtain ⟨rfl, rfl⟩ := trodVars_none hV
  rw [Try.params3] at hA
  obtain ⟨v0, vs0, d0, ds0, p0, q0, hargs, rfl, rfl, h0, r0⟩ := trodAll_cons hA
  obtain ⟨v1, vs1, d1, ds1, p1, q1, rfl, rfl, rfl, h1, r1⟩ := trodAll_cons r0
  obtain ⟨rfl, rfl, rfl⟩ := trodAll_nil r1
  obtain rfl : args = #[v0, v1] := by cases args; simp_all
  obtain ⟨n0, rfl, -, -, wf0⟩ := open_int Try.underlying3 (hval 0 3 v0 rfl rfl) h0
  obtain ⟨a1, len1, cap1, rfl⟩ := okWide_slice Try.underlying22 (hval 1 22 v1 rfl rfl)
  obtain ⟨fuel1, hf1⟩ := h1
  obtain ⟨A1, c1, l1, hcs1, hI1, hl1⟩ := open_numbers hf1
  simp [Value.cells] at hcs1
  obtain ⟨rfl, rfl, rfl⟩ := hcs1
  refine (exactDishesLeast_any _ _ _ _ W hI1 hl1).mono fun e W' ⟨he, hb⟩ => ?_
  subst he
  have hts : ∀ t ∈ Try.f3.params.toList, Try.prog.readableRec t = true ∧ t < Try.prog.types.size := by
    rw [Try.params3]
    intro t ht
    simp only [List.mem_cons, List.not_mem_nil, or_false] at ht
    rcases ht with rfl | rfl <;> exact ⟨by kernel_rfl, of_decide_eq_true (by kernel_rfl)⟩
  exact ⟨_, rfl, post_true hW' rfl rfl Try.underlying4 hts rfl rfl rfl hb⟩

set_option maxRecDepth 100000 in
theorem exactDishesLeast_holds : Rows.FnExactDishesLeastSaid :=
  OpenClaim.holds_of_wide 3 Try.f3 rfl rfl rfl rfl rfl rfl rfl ⟨rfl, rfl, rfl, rfl, rfl⟩ rfl rfl rfl rfl rfl (by kernel_rfl) Try.func3 (by kernel_rfl)
    (of_decide_eq_true (by kernel_rfl)) (by unfold Func.isWrapper; first | (rw [if_pos (by decide +kernel)]; kernel_rfl) | (rw [if_neg (by decide +kernel)]; exact ⟨rfl, rfl⟩))
    (fun os started H enc _ => returnsInHanded_of_change (C := Try.checked) own started (by kernel_rfl) Try.func3
      (ChangeSpec.witness6 (enc := enc) (C := Try.checked) false ⟨#[], #[.int .i64 0, .slice none 0 0], []⟩ 8 (by kernel_rfl) (by kernel_rfl) (by kernel_rfl) (by kernel_rfl))
      (fun W base args ds gs before hval hW _ _ => exactDishesLeast_contract H enc W base args ds gs before hval hW))
end Go.Proofs.Ythbainbgimbjeaa
