/- For every list of items and every list of numbers the exact law of PricesValid answers true, and its arguments read as they did.
   Conditions: none. -/
import Derived.Test.YtigclhjkjhkbjabRead2
import Derived.Test.YtigclhjkjhkbjabPrices
import Derived.Test.YtigclhjkjhkbjabExItemsValid
namespace Go.Proofs.Ytigclhjkjhkbjab
open Go.RowKit Go.ChangeShapes Go.WideShapes Go.ChangeAt

set_option maxHeartbeats 400000 in
theorem exactPricesValid_any (A A' : Option Addr) (c c' : Nat) (l : List Item) (xs : List Int) (w : World) (hA : ItemsAt w A l) (hl : l.length ≤ 9223372036854775807) (hp : ∀ x ∈ l, x.parts.length ≤ 9223372036854775807)
    (hX : IntsAt w A' xs) (hx : xs.length ≤ 9223372036854775807) :
    Calls Try.prog 9 #[.slice A l.length c, .slice A' xs.length c'] w fun e w' => e = .returned (.bool true) ∧ Below w.heap.size w w' := by
  have HP := hide hp
  clear hp
  by_cases hx1 : xs.length ≤ 1048576
  · by_cases h : szL 1048576 l < 0
    · go_enter Try.func9, Try.ntmps9
      go_wp2_with fail
      refine (szItemS_any _ _ _ _ hA hl HP.out).mono ?_
      rintro e w1 ⟨rfl, hB1⟩
      go_wp2_with fail
      go_ret
      exact ⟨rfl, hB1⟩
    · obtain ⟨hl1, hp1⟩ := szL_le h
      have HP1 := hide hp1
      have hbb : (pricesOk l xs != pricesOk l xs) = false := by simp
      clear hp1
      go_enter Try.func9, Try.ntmps9
      go_wp2_with fail
      refine (szItemS_any _ _ _ _ hA hl HP.out).mono ?_
      rintro e w1 ⟨rfl, hB1⟩
      go_wp2_with fail
      refine (toItemS_any _ _ _ _ (hA.below hB1) hl1 HP1.out).mono ?_
      rintro e w2 ⟨rfl, hO2, hB2⟩
      have hb2 := next hB1 hB2
      go_wp2_with fail
      refine (toIntS_any _ _ _ _ (hX.below hb2) hx1).mono ?_
      rintro e w3 ⟨rfl, hO3, hB3⟩
      have hb3 := next hb2 hB3
      go_wp2_with fail
      refine (specPricesValid_any _ _ _ _ _ _ _ (hO2.below hB3).at_ hl1 HP1.out hO3.at_ hx1).mono ?_
      rintro e w4 ⟨rfl, hB4⟩
      have hb4 := next hb3 hB4
      go_wp2_with fail
      refine (toItemS_any _ _ _ _ (hA.below hb4) hl1 HP1.out).mono ?_
      rintro e w5 ⟨rfl, hO5, hB5⟩
      have hb5 := next hb4 hB5
      go_wp2_with fail
      refine (toIntS_any _ _ _ _ (hX.below hb5) hx1).mono ?_
      rintro e w6 ⟨rfl, hO6, hB6⟩
      have hb6 := next hb5 hB6
      have hO56 := hO5.below hB6
      go_wp2_with fail
      refine (implPricesValid_any _ _ _ _ _ _ _ hO56.at_ hl1 HP1.out hO6.at_ hx1).mono ?_
      rintro e w7 ⟨rfl, hB7⟩
      have hb7 := next hb6 hB7
      have hO57 := hO56.below hB7
      have hO67 := hO6.below hB7
      go_wp2_with fail
      refine (toItemS_any _ _ _ _ (hA.below hb7) hl1 HP1.out).mono ?_
      rintro e w8 ⟨rfl, hO8, hB8⟩
      have hb8 := next hb7 hB8
      have hO58 := hO57.below hB8
      have hO68 := hO67.below hB8
      go_wp2_with fail
      refine (eqItemS_same _ _ _ _ _ _ hO58.at_ hO8.at_ hl1 HP1.out).mono ?_
      rintro e w9 ⟨rfl, hB9⟩
      have hb9 := next hb8 hB9
      have hO69 := hO68.below hB9
      go_wp2_with fail
      refine (toIntS_any _ _ _ _ (hX.below hb9) hx1).mono ?_
      rintro e w10 ⟨rfl, hO10, hB10⟩
      have hb10 := next hb9 hB10
      have hO610 := hO69.below hB10
      go_wp2_with fail
      refine (eqIntS_same _ _ _ _ _ _ hO610.at_ hO10.at_ hx1).mono ?_
      rintro e w11 ⟨rfl, hB11⟩
      have hb11 := next hb10 hB11
      go_wp2_with fail
      go_ret
      exact ⟨rfl, hb11⟩
  · go_enter Try.func9, Try.ntmps9
    go_wp2_with fail
    go_ret
    exact ⟨rfl, by go_grown⟩

theorem exactPricesValid_contract (H : Type) (enc : TypeId × Value → H) (W : World) (base : Nat) (args : Array Value) (ds gs : List (DataW H)) (before : List MemPlace)
    (hval : ∀ (j : Nat) t v, Try.f9.params[j]? = some t → args[j]? = some v → Value.okWide Try.prog W .any base t v)
    (hW : DataW.Whole enc Try.prog Try.f9.params.toList Rows.fnExactPricesValidSpec.vars false W args.toList ds gs before) :
    Calls Try.prog 9 args W fun e W' => ∃ v, e = .returned v ∧ Rows.fnExactPricesValidSpec.post enc Try.prog Try.f9 false true false false W args v W' := by
  have hW' := hW
  obtain ⟨p, q, hA, hV, rfl, _, _⟩ := hW
  obtain ⟨rfl, rfl⟩ := trodVars_none hV
  rw [Try.params9] at hA
  obtain ⟨v0, vs0, d0, ds0, p0, q0, hargs, rfl, rfl, h0, r0⟩ := trodAll_cons hA
  obtain ⟨v1, vs1, d1, ds1, p1, q1, rfl, rfl, rfl, h1, r1⟩ := trodAll_cons r0
  obtain ⟨rfl, rfl, rfl⟩ := trodAll_nil r1
  obtain rfl : args = #[v0, v1] := by cases args; simp_all
  obtain ⟨a0, len0, cap0, rfl⟩ := okWide_slice Try.underlying22 (hval 0 22 v0 rfl rfl)
  obtain ⟨fuel0, hf0⟩ := h0
  obtain ⟨A0, c0, l0, hcs0, hI0, hl0, hp0⟩ := open_items hf0
  simp [Value.cells] at hcs0
  obtain ⟨rfl, rfl, rfl⟩ := hcs0
  obtain ⟨a1, len1, cap1, rfl⟩ := okWide_slice Try.underlying31 (hval 1 31 v1 rfl rfl)
  obtain ⟨fuel1, hf1⟩ := h1
  obtain ⟨A1, c1, l1, hcs1, hI1, hl1⟩ := open_numbers hf1
  simp [Value.cells] at hcs1
  obtain ⟨rfl, rfl, rfl⟩ := hcs1
  refine (exactPricesValid_any _ _ _ _ _ _ W hI0 hl0 hp0 hI1 hl1).mono fun e W' ⟨he, hb⟩ => ?_
  subst he
  have hts : ∀ t ∈ Try.f9.params.toList, Try.prog.readableRec t = true ∧ t < Try.prog.types.size := by
    rw [Try.params9]
    intro t ht
    simp only [List.mem_cons, List.not_mem_nil, or_false] at ht
    rcases ht with rfl | rfl <;> exact ⟨by kernel_rfl, of_decide_eq_true (by kernel_rfl)⟩
  exact ⟨_, rfl, post_true hW' rfl rfl Try.underlying4 hts rfl rfl rfl hb⟩

set_option maxRecDepth 100000 in
theorem exactPricesValid_holds : Rows.FnExactPricesValidSaid :=
  OpenClaim.holds_of_wide 9 Try.f9 rfl rfl rfl rfl rfl rfl rfl ⟨rfl, rfl, rfl, rfl, rfl⟩ rfl rfl rfl rfl rfl (by kernel_rfl) Try.func9 (by kernel_rfl)
    (of_decide_eq_true (by kernel_rfl)) (by unfold Func.isWrapper; first | (rw [if_pos (by decide +kernel)]; kernel_rfl) | (rw [if_neg (by decide +kernel)]; exact ⟨rfl, rfl⟩))
    (fun os started H enc _ => returnsInHanded_of_change (C := Try.checked) own started (by kernel_rfl) Try.func9
      (ChangeSpec.witness6 (enc := enc) (C := Try.checked) false ⟨#[], #[.slice none 0 0, .slice none 0 0], []⟩ 8 (by kernel_rfl) (by kernel_rfl) (by kernel_rfl) (by kernel_rfl))
      (fun W base args ds gs before hval hW _ _ => exactPricesValid_contract H enc W base args ds gs before hval hW))
end Go.Proofs.Ytigclhjkjhkbjab
