/- For every list of items and every index the exact law of UsesOf answers true, and its arguments read as they did.
   Conditions: none. -/
import Derived.Test.YtigclhjkjhkbjabRead2
import Derived.Test.YtigclhjkjhkbjabUses
import Derived.Test.YtigclhjkjhkbjabExItemsValid
namespace Go.Proofs.Ytigclhjkjhkbjab
open Go.RowKit Go.ChangeShapes Go.WideShapes Go.ChangeAt

set_option maxHeartbeats 400000 in
theorem exactUsesOf_any (A : Option Addr) (c : Nat) (l : List Item) (index : Int) (w : World) (hA : ItemsAt w A l) (hl : l.length ≤ 9223372036854775807) (hp : ∀ x ∈ l, x.parts.length ≤ 9223372036854775807) :
    Calls Try.prog 4 #[.slice A l.length c, .int .i64 index] w fun e w' => e = .returned (.bool true) ∧ Below w.heap.size w w' := by
  have HP := hide hp
  clear hp
  by_cases h : szL 1048576 l < 0
  · go_enter Try.func4, Try.ntmps4
    go_wp2_with fail
    refine (szItemS_any _ _ _ _ hA hl HP.out).mono ?_
    rintro e w1 ⟨rfl, hB1⟩
    go_wp2_with fail
    go_ret
    exact ⟨rfl, hB1⟩
  · obtain ⟨hl1, hp1⟩ := szL_le h
    have HP1 := hide hp1
    have hbb : (usesL l index != usesL l index) = false := by simp
    clear hp1
    go_enter Try.func4, Try.ntmps4
    go_wp2_with fail
    refine (szItemS_any _ _ _ _ hA hl HP.out).mono ?_
    rintro e w1 ⟨rfl, hB1⟩
    go_wp2_with fail
    refine (toItemS_any _ _ _ _ (hA.below hB1) hl1 HP1.out).mono ?_
    rintro e w2 ⟨rfl, hO2, hB2⟩
    go_wp2_with fail
    refine (specUsesOf_any _ _ _ _ _ hO2.at_ hl1 HP1.out).mono ?_
    rintro e w3 ⟨rfl, hB3⟩
    have hb3 := next (next hB1 hB2) hB3
    go_wp2_with fail
    refine (toItemS_any _ _ _ _ (hA.below hb3) hl1 HP1.out).mono ?_
    rintro e w4 ⟨rfl, hO4, hB4⟩
    have hb4 := next hb3 hB4
    go_wp2_with fail
    refine (implUsesOf_any _ _ _ _ _ hO4.at_ hl1 HP1.out).mono ?_
    rintro e w5 ⟨rfl, hB5⟩
    have hb5 := next hb4 hB5
    go_wp2_with fail
    refine (toItemS_any _ _ _ _ (hA.below hb5) hl1 HP1.out).mono ?_
    rintro e w6 ⟨rfl, hO6, hB6⟩
    have hb6 := next hb5 hB6
    have hO46 := (hO4.below hB5).below hB6
    go_wp2_with fail
    refine (eqItemS_same _ _ _ _ _ _ hO46.at_ hO6.at_ hl1 HP1.out).mono ?_
    rintro e w7 ⟨rfl, hB7⟩
    have hb7 := next hb6 hB7
    go_wp2_with fail
    go_ret
    exact ⟨rfl, hb7⟩

theorem exactUsesOf_contract (H : Type) (enc : TypeId × Value → H) (W : World) (base : Nat) (args : Array Value) (ds gs : List (DataW H)) (before : List MemPlace)
    (hval : ∀ (j : Nat) t v, Try.f4.params[j]? = some t → args[j]? = some v → Value.okWide Try.prog W .any base t v)
    (hW : DataW.Whole enc Try.prog Try.f4.params.toList Rows.fnExactUsesOfSpec.vars false W args.toList ds gs before) :
    Calls Try.prog 4 args W fun e W' => ∃ v, e = .returned v ∧ Rows.fnExactUsesOfSpec.post enc Try.prog Try.f4 false true false false W args v W' := by
  have hW' := hW
  obtain ⟨p, q, hA, hV, rfl, _, _⟩ := hW
  obtain ⟨rfl, rfl⟩ := trodVars_none hV
  rw [Try.params4] at hA
  obtain ⟨v0, vs0, d0, ds0, p0, q0, hargs, rfl, rfl, h0, r0⟩ := trodAll_cons hA
  obtain ⟨v1, vs1, d1, ds1, p1, q1, rfl, rfl, rfl, h1, r1⟩ := trodAll_cons r0
  obtain ⟨rfl, rfl, rfl⟩ := trodAll_nil r1
  obtain rfl : args = #[v0, v1] := by cases args; simp_all
  obtain ⟨a0, len0, cap0, rfl⟩ := okWide_slice Try.underlying22 (hval 0 22 v0 rfl rfl)
  obtain ⟨fuel0, hf0⟩ := h0
  obtain ⟨A0, c0, l0, hcs0, hI0, hl0, hp0⟩ := open_items hf0
  simp [Value.cells] at hcs0
  obtain ⟨rfl, rfl, rfl⟩ := hcs0
  obtain ⟨n1, rfl, -, -, w1⟩ := open_int Try.underlying3 (hval 1 3 v1 rfl rfl) h1
  refine (exactUsesOf_any _ _ _ _ W hI0 hl0 hp0).mono fun e W' ⟨he, hb⟩ => ?_
  subst he
  have hts : ∀ t ∈ Try.f4.params.toList, Try.prog.readableRec t = true ∧ t < Try.prog.types.size := by
    rw [Try.params4]
    intro t ht
    simp only [List.mem_cons, List.not_mem_nil, or_false] at ht
    rcases ht with rfl | rfl <;> exact ⟨by kernel_rfl, of_decide_eq_true (by kernel_rfl)⟩
  exact ⟨_, rfl, post_true hW' rfl rfl Try.underlying4 hts rfl rfl rfl hb⟩

set_option maxRecDepth 100000 in
theorem exactUsesOf_holds : Rows.FnExactUsesOfSaid :=
  OpenClaim.holds_of_wide 4 Try.f4 rfl rfl rfl rfl rfl rfl rfl ⟨rfl, rfl, rfl, rfl, rfl⟩ rfl rfl rfl rfl rfl (by kernel_rfl) Try.func4 (by kernel_rfl)
    (of_decide_eq_true (by kernel_rfl)) (by unfold Func.isWrapper; first | (rw [if_pos (by decide +kernel)]; kernel_rfl) | (rw [if_neg (by decide +kernel)]; exact ⟨rfl, rfl⟩))
    (fun os started H enc _ => returnsInHanded_of_change (C := Try.checked) own started (by kernel_rfl) Try.func4
      (ChangeSpec.witness6 (enc := enc) (C := Try.checked) false ⟨#[], #[.slice none 0 0, .int .i64 0], []⟩ 8 (by kernel_rfl) (by kernel_rfl) (by kernel_rfl) (by kernel_rfl))
      (fun W base args ds gs before hval hW _ _ => exactUsesOf_contract H enc W base args ds gs before hval hW))
end Go.Proofs.Ytigclhjkjhkbjab
