/- For every list of lots, every day and every amount the exact law of TakeFirst answers true, and its arguments read as they did.
   Conditions: none. -/
import Derived.Test.YtecmghoklleheabRead2
import Derived.Test.YtecmghoklleheabMark
import Derived.Test.YtecmghoklleheabSlKit
import Derived.Test.YtecmghoklleheabTakeFirst
namespace Go.Proofs.Ytecmghoklleheab
open Go.RowKit Go.ChangeShapes Go.WideShapes Go.ChangeAt

set_option maxHeartbeats 1000000 in
theorem exactTakeFirst_any (A : Option Addr) (c : Nat) (l : List Lot) (day want : Int) (w : World) (hA : LotsAt w A l) (hl : l.length ≤ 9223372036854775807) :
    Calls Try.prog 8 #[.slice A l.length c, .int .i64 day, .int .i64 want] w fun e w' => e = .returned (.bool true) ∧ Below w.heap.size w w' := by
  by_cases h : szP 1048576 l.length < 0
  · go_enter Try.func8, Try.ntmps8
    go_wp2_with fail
    refine (szLotS_b _ _ _ _ _ (by omega) (by omega) hl).mono ?_
    rintro e w1 ⟨rfl, hB1⟩
    go_wp2_with fail
    go_ret
    exact ⟨rfl, hB1⟩
  · have hl1 : l.length ≤ 1048576 := by have := szP_le h; omega
    have hn : (takeFirstL l day want).length ≤ 1048576 := Nat.le_trans (takeFirstL_len _ _ _) hl1
    obtain ⟨xs, HX⟩ : ∃ xs, Hid (takeFirstL l day want = xs) := ⟨_, hide rfl⟩
    rw [HX.out] at hn
    have hne : (1 + (xs.length : Int) != 1 + (xs.length : Int)) = false := by simp
    go_enter Try.func8, Try.ntmps8
    go_wp2_with fail
    refine (szLotS_b _ _ _ _ _ (by omega) (by omega) hl).mono ?_
    rintro e w1 ⟨rfl, hB1⟩
    go_wp2_with fail
    refine (toLotS_any _ _ _ _ (hA.below hB1) hl1).mono ?_
    rintro e w2 ⟨rfl, hO2, hB2⟩
    have hb2 := next hB1 hB2
    go_wp2_with fail
    refine (specTakeFirst_any _ _ _ _ _ _ hO2.at_ hl1).mono ?_
    rintro e w3 ⟨v0, rfl, hS0, hB3⟩
    rw [HX.out] at hS0
    obtain ⟨A0, c0, rfl, -, hb0⟩ := hS0.form
    have hb3 := next hb2 hB3
    go_wp2_with fail
    refine (toLotS_any _ _ _ _ (hA.below hb3) hl1).mono ?_
    rintro e w4 ⟨rfl, hO4, hB4⟩
    have hb4 := next hb3 hB4
    go_wp2_with fail
    refine (implTakeFirst_any _ _ _ _ _ _ hO4.at_ hl1).mono ?_
    rintro e w5 ⟨v1, rfl, hS1, hB5⟩
    rw [HX.out] at hS1
    obtain ⟨A1, c1, rfl, -, hb1⟩ := hS1.form
    have hb5 := next hb4 hB5
    have hS0_4 := hS0.below hB4
    have hS0_5 := hS0_4.below hB5
    go_wp2_with fail
    refine (eqIntS_same _ _ _ _ _ _ hS1.ints hS0_5.ints hn).mono ?_
    rintro e w6 ⟨rfl, hB6⟩
    have hb6 := next hb5 hB6
    go_wp2_with fail
    refine (toLotS_any _ _ _ _ (hA.below hb6) hl1).mono ?_
    rintro e w7 ⟨rfl, hO7, hB7⟩
    have hb7 := next hb6 hB7
    have hO4_7 := ((hO4.below hB5).below hB6).below hB7
    go_wp2_with fail
    refine (eqLotS_same _ _ _ _ _ _ hO4_7.at_ hO7.at_ hl1).mono ?_
    rintro e w8 ⟨rfl, hB8⟩
    have hb8 := next hb7 hB8
    have hM8 := ((((hO4.below hB5).below hB6).below hB7).below hB8).sl (Nat.le_refl w3.heap.size) hl1
    have hr : 0 ≤ 1 + 2 * (l.length : Int) := by omega
    have hlt34 : w3.heap.size < w4.heap.size := hO4.lt
    have hS0_8 := ((hS0_5.below hB6).below hB7).below hB8
    have hS1_8 := ((hS1.below hB6).below hB7).below hB8
    have hlo0 : (Value.slice A0 xs.length c0).ownBlock = none ∨ (Value.slice A0 xs.length c0).ownBlock ≠ some w3.heap.size := by
      cases e0 : (Value.slice A0 xs.length c0).ownBlock with
      | none => exact .inl rfl
      | some k => exact .inr (fun e => by injection e with e; have := (hS0.lt k e0).2; omega)
    have hlo1 : (Value.slice A1 xs.length c1).ownBlock = none ∨ (Value.slice A1 xs.length c1).ownBlock ≠ some w3.heap.size := by
      cases e0 : (Value.slice A1 xs.length c1).ownBlock with
      | none => exact .inl rfl
      | some k => exact .inr (fun e => by injection e with e; have := (hS1.lt k e0).1; omega)
    have hdiff : (Value.slice A0 xs.length c0).ownBlock = none ∨ (Value.slice A0 xs.length c0).ownBlock ≠ (Value.slice A1 xs.length c1).ownBlock := by
      cases e0 : (Value.slice A0 xs.length c0).ownBlock with
      | none => exact .inl rfl
      | some k =>
        refine .inr fun e1 => ?_
        have a := (hS0.lt k e0).2
        have b := (hS1.lt k e1.symm).1
        have := hB4.size
        omega
    have hge1 : ∀ k, (Value.slice A1 xs.length c1).ownBlock = some k → w.heap.size ≤ k := fun k hk => Nat.le_trans hb4.size (hS1.lt k hk).1
    have HLO0 := hide hlo0
    have HLO1 := hide hlo1
    have HDF := hide hdiff
    have HGE := hide hge1
    clear hlo0 hlo1 hdiff hge1 hO4 hO4_7 hO7 hO2 hS0 hS0_4 hS0_5 hS1 hB2 hB4 hB5 hB6 hB7 hB8
    go_wp2_with fail
    refine (markLotS_any _ _ _ _ _ _ hM8 hl1 (by omega) (by omega)).mono ?_
    rintro e w9 ⟨rfl, -, hg9⟩
    have hb9 : Below w.heap.size w w9 := hb8.grown hg9 hb8.size (fun k hk => by have hk : some w3.heap.size = some k := hk; injection hk with hk; have := hb3.size; omega)
    have hS0_9 := hS0_8.row hg9 HLO0.out
    have hS1_9 := hS1_8.row hg9 HLO1.out
    clear hg9 hM8
    go_wp2_with fail
    refine (eqIntS_same _ _ _ _ _ _ hS1_9.ints hS0_9.ints hn).mono ?_
    rintro e w10 ⟨rfl, hB10⟩
    have hb10 := next hb9 hB10
    have hS0_10 := hS0_9.below hB10
    have hS1_10 := hS1_9.below hB10
    go_wp2_with fail
    refine (markIntS_one _ _ _ _ _ hS1_10 hn).mono ?_
    rintro e w11 ⟨rfl, hS1_11, hg11⟩
    have hb11 : Below w.heap.size w w11 := hb10.grown hg11 hb10.size HGE.out
    have hS0_11 := hS0_10.row hg11 HDF.out
    clear hg11
    go_wp2_with fail
    refine (heldIntS_one _ _ _ _ hS1_11.ints hn).mono ?_
    rintro e w12 ⟨rfl, rfl⟩
    go_wp2_with fail
    refine (toLotS_any _ _ _ _ (hA.below hb11) hl1).mono ?_
    rintro e w13 ⟨rfl, hO13, hB13⟩
    have hb13 := next hb11 hB13
    go_wp2_with fail
    refine (implTakeFirst_any _ _ _ _ _ _ hO13.at_ hl1).mono ?_
    rintro e w14 ⟨v2, rfl, hS2, hB14⟩
    rw [HX.out] at hS2
    obtain ⟨A2, c2, rfl, -, hb22⟩ := hS2.form
    have hb14 := next hb13 hB14
    have hS0_14 := (hS0_11.below hB13).below hB14
    have hS1_14 := (hS1_11.below hB13).below hB14
    go_wp2_with fail
    refine (eqIntS_same _ _ _ _ _ _ hS2.ints hS0_14.ints hn).mono ?_
    rintro e w15 ⟨rfl, hB15⟩
    have hb15 := next hb14 hB15
    have hS1_15 := hS1_14.below hB15
    go_wp2_with fail
    refine (heldIntS_one _ _ _ _ hS1_15.ints hn).mono ?_
    rintro e w16 ⟨rfl, rfl⟩
    go_wp2_with fail
    go_ret
    exact ⟨rfl, hb15⟩

theorem exactTakeFirst_contract (H : Type) (enc : TypeId × Value → H) (W : World) (base : Nat) (args : Array Value) (ds gs : List (DataW H)) (before : List MemPlace)
    (hval : ∀ (j : Nat) t v, Try.f8.params[j]? = some t → args[j]? = some v → Value.okWide Try.prog W .any base t v)
    (hW : DataW.Whole enc Try.prog Try.f8.params.toList Rows.fnExactTakeFirstSpec.vars false W args.toList ds gs before) :
    Calls Try.prog 8 args W fun e W' => ∃ v, e = .returned v ∧ Rows.fnExactTakeFirstSpec.post enc Try.prog Try.f8 false true false false W args v W' := by
  have hW' := hW
  obtain ⟨p, q, hA, hV, rfl, _, _⟩ := hW
  obtain ⟨rfl, rfl⟩ := trodVars_none hV
  rw [Try.params8] at hA
  obtain ⟨v0, vs0, d0, ds0, p0, q0, hargs, rfl, rfl, h0, r0⟩ := trodAll_cons hA
  obtain ⟨v1, vs1, d1, ds1, p1, q1, rfl, rfl, rfl, h1, r1⟩ := trodAll_cons r0
  obtain ⟨v2, vs2, d2, ds2, p2, q2, rfl, rfl, rfl, h2, r2⟩ := trodAll_cons r1
  obtain ⟨rfl, rfl, rfl⟩ := trodAll_nil r2
  obtain rfl : args = #[v0, v1, v2] := by cases args; simp_all
  obtain ⟨a0, len0, cap0, rfl⟩ := okWide_slice Try.underlying22 (hval 0 22 v0 rfl rfl)
  obtain ⟨fuel0, hf0⟩ := h0
  obtain ⟨A0, c0, l0, hcs0, hI0, hl0⟩ := open_lots hf0
  simp [Value.cells] at hcs0
  obtain ⟨rfl, rfl, rfl⟩ := hcs0
  obtain ⟨n1, rfl, -, -, wf1⟩ := open_int Try.underlying3 (hval 1 3 v1 rfl rfl) h1
  obtain ⟨n2, rfl, -, -, wf2⟩ := open_int Try.underlying3 (hval 2 3 v2 rfl rfl) h2
  refine (exactTakeFirst_any _ _ _ _ _ W hI0 hl0).mono fun e W' ⟨he, hb⟩ => ?_
  subst he
  have hts : ∀ t ∈ Try.f8.params.toList, Try.prog.readableRec t = true ∧ t < Try.prog.types.size := by
    rw [Try.params8]
    intro t ht
    simp only [List.mem_cons, List.not_mem_nil, or_false] at ht
    rcases ht with rfl | rfl | rfl <;> exact ⟨by kernel_rfl, of_decide_eq_true (by kernel_rfl)⟩
  exact ⟨_, rfl, post_true hW' rfl rfl Try.underlying4 hts rfl rfl rfl hb⟩

set_option maxRecDepth 100000 in
theorem exactTakeFirst_holds : Rows.FnExactTakeFirstSaid :=
  OpenClaim.holds_of_wide 8 Try.f8 rfl rfl rfl rfl rfl rfl rfl ⟨rfl, rfl, rfl, rfl, rfl⟩ rfl rfl rfl rfl rfl (by kernel_rfl) Try.func8 (by kernel_rfl)
    (of_decide_eq_true (by kernel_rfl)) (by unfold Func.isWrapper; first | (rw [if_pos (by decide +kernel)]; kernel_rfl) | (rw [if_neg (by decide +kernel)]; exact ⟨rfl, rfl⟩))
    (fun os started H enc _ => returnsInHanded_of_change (C := Try.checked) own started (by kernel_rfl) Try.func8
      (ChangeSpec.witness6 (enc := enc) (C := Try.checked) false ⟨#[], #[.slice none 0 0, .int .i64 0, .int .i64 0], []⟩ 8 (by kernel_rfl) (by kernel_rfl) (by kernel_rfl) (by kernel_rfl))
      (fun W base args ds gs before hval hW _ _ => exactTakeFirst_contract H enc W base args ds gs before hval hW))
end Go.Proofs.Ytecmghoklleheab
