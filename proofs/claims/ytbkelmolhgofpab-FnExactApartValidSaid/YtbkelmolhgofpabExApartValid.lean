/- For every number, every list of numbers, every list of numbers the exact law of ApartValid answers true, and its arguments read as they did.
   Conditions: none. -/
import Derived.Test.YtbkelmolhgofpabRead2
import Derived.Test.YtbkelmolhgofpabExKit
import Derived.Test.YtbkelmolhgofpabGuests5
namespace Go.Proofs.Ytbkelmolhgofpab
open Go.RowKit Go.ChangeShapes Go.WideShapes Go.ChangeAt

set_option maxRecDepth 100000 in
set_option maxHeartbeats 2000000 in
theorem exactApartValid_any (n0 : Int) (A1 A2 : Option Addr) (c1 c2 : Nat) (x1 x2 : List Int) (w : World)  (hA1 : IntsAt w A1 x1) (hl1 : x1.length ≤ 9223372036854775807) (hA2 : IntsAt w A2 x2) (hl2 : x2.length ≤ 9223372036854775807) :
    Calls Try.prog 9 #[.int .i64 n0, .slice A1 x1.length c1, .slice A2 x2.length c2] w fun e w' => e = .returned (.bool true) ∧ Below w.heap.size w w' := by
  by_cases hl1s : x1.length ≤ 1048576
  · by_cases hl2s : x2.length ≤ 1048576
    · have hbb : (apartL n0 x1 x2 != apartL n0 x1 x2) = false := by simp
      go_enter Try.func9, Try.ntmps9
      go_wp2_with fail
      refine (toIntS_any _ _ _ _ hA1 hl1s).mono ?_
      rintro e w1 ⟨rfl, hO1_1, hB1⟩
      have hb1 := hB1
      go_wp2_with fail
      refine (toIntS_any _ _ _ _ (hA2.below hb1) hl2s).mono ?_
      rintro e w2 ⟨rfl, hO2_2, hB2⟩
      have hb2 := next hb1 hB2
      have hO1_2 := hO1_1.below hB2
      clear hO1_1
      go_wp2_with fail
      refine (specApartValid_any _ _ _ _ _ _ _ _ hO1_2.at_ hl1s hO2_2.at_ hl2s).mono ?_
      rintro e w3 ⟨rfl, hB3⟩
      have hb3 := next hb2 hB3
      have hO1_3 := hO1_2.below hB3
      have hO2_3 := hO2_2.below hB3
      clear hO1_2 hO2_2
      go_wp2_with fail
      refine (toIntS_any _ _ _ _ (hA1.below hb3) hl1s).mono ?_
      rintro e w4 ⟨rfl, hO1_4, hB4⟩
      have hb4 := next hb3 hB4
      go_wp2_with fail
      refine (toIntS_any _ _ _ _ (hA2.below hb4) hl2s).mono ?_
      rintro e w5 ⟨rfl, hO2_5, hB5⟩
      have hb5 := next hb4 hB5
      have hO1_5 := hO1_4.below hB5
      clear hO1_4
      go_wp2_with fail
      refine (implApartValid_any _ _ _ _ _ _ _ _ hO1_5.at_ hl1s hO2_5.at_ hl2s).mono ?_
      rintro e w6 ⟨rfl, hB6⟩
      have hb6 := next hb5 hB6
      have hO1_6 := hO1_5.below hB6
      have hO2_6 := hO2_5.below hB6
      clear hO1_5 hO2_5
      go_wp2_with fail
      refine (toIntS_any _ _ _ _ (hA1.below hb6) hl1s).mono ?_
      rintro e w7 ⟨rfl, hV1_7, hB7⟩
      have hb7 := next hb6 hB7
      have hO1_7 := hO1_6.below hB7
      have hO2_7 := hO2_6.below hB7
      clear hO1_6 hO2_6
      go_wp2_with fail
      refine (eqIntS_same _ _ _ _ _ _ hO1_7.at_ hV1_7.at_ hl1s).mono ?_
      rintro e w8 ⟨rfl, hB8⟩
      have hb8 := next hb7 hB8
      have hO2_8 := hO2_7.below hB8
      clear hO2_7
      go_wp2_with fail
      refine (toIntS_any _ _ _ _ (hA2.below hb8) hl2s).mono ?_
      rintro e w9 ⟨rfl, hV2_9, hB9⟩
      have hb9 := next hb8 hB9
      have hO2_9 := hO2_8.below hB9
      clear hO2_8
      go_wp2_with fail
      refine (eqIntS_same _ _ _ _ _ _ hO2_9.at_ hV2_9.at_ hl2s).mono ?_
      rintro e w10 ⟨rfl, hB10⟩
      have hb10 := next hb9 hB10
      go_wp2_with fail
      go_ret
      exact ⟨rfl, hb10⟩
    · go_enter Try.func9, Try.ntmps9
      go_wp2_with fail
      go_ret
      exact ⟨rfl, by go_grown⟩
  · go_enter Try.func9, Try.ntmps9
    go_wp2_with fail
    go_ret
    exact ⟨rfl, by go_grown⟩

theorem exactApartValid_contract (H : Type) (enc : TypeId × Value → H) (W : World) (base : Nat) (args : Array Value) (ds gs : List (DataW H)) (before : List MemPlace)
    (hval : ∀ (j : Nat) t v, Try.f9.params[j]? = some t → args[j]? = some v → Value.okWide Try.prog W .any base t v)
    (hW : DataW.Whole enc Try.prog Try.f9.params.toList Rows.fnExactApartValidSpec.vars false W args.toList ds gs before) :
    Calls Try.prog 9 args W fun e W' => ∃ v, e = .returned v ∧ Rows.fnExactApartValidSpec.post enc Try.prog Try.f9 false true false false W args v W' := by
  have hW' := hW
  obtain ⟨p, q, hA, hV, rfl, _, _⟩ := hW
  obtain ⟨rfl, rfl⟩ := trodVars_none hV
  rw [Try.params9] at hA
  obtain ⟨v0, vs0, d0, ds0, p0, q0, hargs, rfl, rfl, h0, r0⟩ := trodAll_cons hA
  obtain ⟨v1, vs1, d1, ds1, p1, q1, rfl, rfl, rfl, h1, r1⟩ := trodAll_cons r0
  obtain ⟨v2, vs2, d2, ds2, p2, q2, rfl, rfl, rfl, h2, r2⟩ := trodAll_cons r1
  obtain ⟨rfl, rfl, rfl⟩ := trodAll_nil r2
  obtain rfl : args = #[v0, v1, v2] := by cases args; simp_all
  obtain ⟨n0, rfl, -, -, wf0⟩ := open_int Try.underlying3 (hval 0 3 v0 rfl rfl) h0
  obtain ⟨a1, len1, cap1, rfl⟩ := okWide_slice Try.underlying22 (hval 1 22 v1 rfl rfl)
  obtain ⟨fuel1, hf1⟩ := h1
  obtain ⟨A1, c1, l1, hcs1, hI1, hl1⟩ := open_numbers hf1
  simp [Value.cells] at hcs1
  obtain ⟨rfl, rfl, rfl⟩ := hcs1
  obtain ⟨a2, len2, cap2, rfl⟩ := okWide_slice Try.underlying22 (hval 2 22 v2 rfl rfl)
  obtain ⟨fuel2, hf2⟩ := h2
  obtain ⟨A2, c2, l2, hcs2, hI2, hl2⟩ := open_numbers hf2
  simp [Value.cells] at hcs2
  obtain ⟨rfl, rfl, rfl⟩ := hcs2
  refine (exactApartValid_any _ _ _ _ _ _ _ W hI1 hl1 hI2 hl2).mono fun e W' ⟨he, hb⟩ => ?_
  subst he
  have hts : ∀ t ∈ Try.f9.params.toList, Try.prog.readableRec t = true ∧ t < Try.prog.types.size := by
    rw [Try.params9]
    intro t ht
    simp only [List.mem_cons, List.not_mem_nil, or_false] at ht
    rcases ht with rfl | rfl | rfl <;> exact ⟨by kernel_rfl, of_decide_eq_true (by kernel_rfl)⟩
  exact ⟨_, rfl, post_true hW' rfl rfl Try.underlying4 hts rfl rfl rfl hb⟩

set_option maxRecDepth 100000 in
theorem exactApartValid_holds : Rows.FnExactApartValidSaid :=
  OpenClaim.holds_of_wide 9 Try.f9 rfl rfl rfl rfl rfl rfl rfl ⟨rfl, rfl, rfl, rfl, rfl⟩ rfl rfl rfl rfl rfl (by kernel_rfl) Try.func9 (by kernel_rfl)
    (of_decide_eq_true (by kernel_rfl)) (by unfold Func.isWrapper; first | (rw [if_pos (by decide +kernel)]; kernel_rfl) | (rw [if_neg (by decide +kernel)]; exact ⟨rfl, rfl⟩))
    (fun os started H enc _ => returnsInHanded_of_change (C := Try.checked) own started (by kernel_rfl) Try.func9
      (ChangeSpec.witness6 (enc := enc) (C := Try.checked) false ⟨#[], #[.int .i64 0, .slice none 0 0, .slice none 0 0], []⟩ 8 (by kernel_rfl) (by kernel_rfl) (by kernel_rfl) (by kernel_rfl))
      (fun W base args ds gs before hval hW _ _ => exactApartValid_contract H enc W base args ds gs before hval hW))
end Go.Proofs.Ytbkelmolhgofpab
