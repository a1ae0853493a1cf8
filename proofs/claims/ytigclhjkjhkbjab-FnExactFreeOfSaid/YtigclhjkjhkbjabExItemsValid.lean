/- For every list of items the exact law of ItemsValid answers true, and its argument reads as it did.
   Conditions: none. -/
import Derived.Test.YtigclhjkjhkbjabRead
import Derived.Test.YtigclhjkjhkbjabValid
namespace Go.Proofs.Ytigclhjkjhkbjab
open Go.RowKit Go.ChangeShapes Go.WideShapes Go.ChangeAt

theorem szGo_le : ∀ (l : List Item) (left : Int), 0 ≤ szGo left l → ∀ x ∈ l, (x.parts.length : Int) ≤ left
  | [], _, _, x, hx => by simp at hx
  | y :: r, left, h, x, hx => by
    unfold szGo at h
    split at h
    · omega
    · rcases List.mem_cons.1 hx with rfl | hx
      · omega
      · have := szGo_le r _ h x hx
        omega

theorem szL_le {l : List Item} (h : ¬ szL 1048576 l < 0) : l.length ≤ 1048576 ∧ ∀ x ∈ l, x.parts.length ≤ 1048576 := by
  unfold szL at h
  split at h
  · omega
  · refine ⟨by omega, fun x hx => ?_⟩
    have := szGo_le l (1048576 - l.length) (by omega) x hx
    omega

set_option maxHeartbeats 400000 in
theorem exactItemsValid_any (A : Option Addr) (c : Nat) (l : List Item) (w : World) (hA : ItemsAt w A l) (hl : l.length ≤ 9223372036854775807) (hp : ∀ x ∈ l, x.parts.length ≤ 9223372036854775807) :
    Calls Try.prog 3 #[.slice A l.length c] w fun e w' => e = .returned (.bool true) ∧ Below w.heap.size w w' := by
  have HP := hide hp
  clear hp
  by_cases h : szL 1048576 l < 0
  · go_enter Try.func3, Try.ntmps3
    go_wp2_with fail
    refine (szItemS_any _ _ _ _ hA hl HP.out).mono ?_
    rintro e w1 ⟨rfl, hB1⟩
    go_wp2_with fail
    go_ret
    exact ⟨rfl, hB1⟩
  · obtain ⟨hl1, hp1⟩ := szL_le h
    have HP1 := hide hp1
    have hbb : (itemsOk l != itemsOk l) = false := by simp
    clear hp1
    go_enter Try.func3, Try.ntmps3
    go_wp2_with fail
    refine (szItemS_any _ _ _ _ hA hl HP.out).mono ?_
    rintro e w1 ⟨rfl, hB1⟩
    go_wp2_with fail
    have hA1 := hA.below hB1
    refine (toItemS_any _ _ _ _ hA1 hl1 HP1.out).mono ?_
    rintro e w2 ⟨rfl, hO2, hB2⟩
    go_wp2_with fail
    refine (specItemsValid_any _ _ _ _ hO2.at_ hl1 HP1.out).mono ?_
    rintro e w3 ⟨rfl, hB3⟩
    have hb3 := next (next hB1 hB2) hB3
    go_wp2_with fail
    refine (toItemS_any _ _ _ _ (hA.below hb3) hl1 HP1.out).mono ?_
    rintro e w4 ⟨rfl, hO4, hB4⟩
    have hb4 := next hb3 hB4
    go_wp2_with fail
    refine (implItemsValid_any _ _ _ _ hO4.at_ hl1 HP1.out).mono ?_
    rintro e w5 ⟨rfl, hB5⟩
    have hb5 := next hb4 hB5
    go_wp2_with fail
    refine (toItemS_any _ _ _ _ (hA.below hb5) hl1 HP1.out).mono ?_
    rintro e w6 ⟨rfl, hO6, hB6⟩
    have hb6 := next hb5 hB6
    have hO46 := (hO4.below hB5).below hB6
    go_wp2_with fail
    refine (eqItemS_same _ _ _ _ _ _ hO46.at_ hO6.at_ hl1 HP1.out).mono ?_
    rintro e w7 ⟨rfl, hB7⟩
    have hb7 := next hb6 hB7
    go_wp2_with fail
    go_ret
    exact ⟨rfl, hb7⟩

theorem exactItemsValid_contract (H : Type) (enc : TypeId × Value → H) (W : World) (base : Nat) (args : Array Value) (ds gs : List (DataW H)) (before : List MemPlace)
    (hval : ∀ (j : Nat) t v, Try.f3.params[j]? = some t → args[j]? = some v → Value.okWide Try.prog W .any base t v)
    (hW : DataW.Whole enc Try.prog Try.f3.params.toList Rows.fnExactItemsValidSpec.vars false W args.toList ds gs before) :
    Calls Try.prog 3 args W fun e W' => ∃ v, e = .returned v ∧ Rows.fnExactItemsValidSpec.post enc Try.prog Try.f3 false true false false W args v W' := by
  have hW' := hW
  obtain ⟨p, q, hA, hV, rfl, _, _⟩ := hW
  obtain ⟨rfl, rfl⟩ := trodVars_none hV
  rw [Try.params3] at hA
  obtain ⟨v0, vs0, d0, ds0, p0, q0, hargs, rfl, rfl, h0, r0⟩ := trodAll_cons hA
  obtain ⟨rfl, rfl, rfl⟩ := trodAll_nil r0
  obtain rfl : args = #[v0] := by cases args; simp_all
  obtain ⟨a0, len, cap, rfl⟩ := okWide_slice Try.underlying22 (hval 0 22 v0 rfl rfl)
  obtain ⟨fuel, hf⟩ := h0
  obtain ⟨A, c, l, hcs, hI, hl, hp⟩ := open_items hf
  simp [Value.cells] at hcs
  obtain ⟨rfl, rfl, rfl⟩ := hcs
  refine (exactItemsValid_any _ _ _ W hI hl hp).mono fun e W' ⟨he, hb⟩ => ?_
  subst he
  exact ⟨_, rfl, post_true hW' rfl rfl Try.underlying4 (by rw [Try.params3]; exact fun t ht => by simp at ht; subst ht; exact ⟨by kernel_rfl, of_decide_eq_true (by kernel_rfl)⟩) rfl rfl rfl hb⟩

set_option maxRecDepth 100000 in
theorem exactItemsValid_holds : Rows.FnExactItemsValidSaid :=
  OpenClaim.holds_of_wide 3 Try.f3 rfl rfl rfl rfl rfl rfl rfl ⟨rfl, rfl, rfl, rfl, rfl⟩ rfl rfl rfl rfl rfl (by kernel_rfl) Try.func3 (by kernel_rfl)
    (of_decide_eq_true (by kernel_rfl)) (by unfold Func.isWrapper; first | (rw [if_pos (by decide +kernel)]; kernel_rfl) | (rw [if_neg (by decide +kernel)]; exact ⟨rfl, rfl⟩))
    (fun os started H enc _ => returnsInHanded_of_change (C := Try.checked) own started (by kernel_rfl) Try.func3
      (ChangeSpec.witness6 (enc := enc) (C := Try.checked) false ⟨#[], #[.slice none 0 0], []⟩ 8 (by kernel_rfl) (by kernel_rfl) (by kernel_rfl) (by kernel_rfl))
      (fun W base args ds gs before hval hW _ _ => exactItemsValid_contract H enc W base args ds gs before hval hW))
end Go.Proofs.Ytigclhjkjhkbjab
