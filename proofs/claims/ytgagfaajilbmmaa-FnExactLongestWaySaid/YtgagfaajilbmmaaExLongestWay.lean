/- For every list of tasks the exact law of LongestWay answers true, and its argument reads as it did.
   Conditions: none. -/
import Derived.Test.YtgagfaajilbmmaaRead2
import Derived.Test.YtgagfaajilbmmaaExKit
import Derived.Test.YtgagfaajilbmmaaSlKit
import Derived.Test.YtgagfaajilbmmaaTaskMark
import Derived.Test.YtgagfaajilbmmaaWay
namespace Go.Proofs.Ytgagfaajilbmmaa
open Go.RowKit Go.ChangeShapes Go.WideShapes Go.ChangeAt

set_option maxHeartbeats 1000000 in
theorem exactLongestWay_any (A : Option Addr) (c : Nat) (l : List Task) (w : World) (hA : TasksAt w A l) (hl : l.length ≤ 9223372036854775807) (hp : ∀ x ∈ l, x.after.length ≤ 9223372036854775807) :
    Calls Try.prog 5 #[.slice A l.length c] w fun e w' => e = .returned (.bool true) ∧ Below w.heap.size w w' := by
  have HP := hide hp
  clear hp
  by_cases h : szTs 1048576 l < 0
  · go_enter Try.func5, Try.ntmps5
    go_wp2_with fail
    refine (szTaskS_any _ _ _ _ _ hA (by omega) (by omega) hl HP.out).mono ?_
    rintro e w1 ⟨rfl, hB1⟩
    go_wp2_with fail
    go_ret
    exact ⟨rfl, hB1⟩
  · obtain ⟨hl1, hp1⟩ := szTs_le (by omega) h
    have HP1 := hide hp1
    have hn : (longestL l).length ≤ 1048576 := longestL_le l
    obtain ⟨xs, HX⟩ : ∃ xs, Hid (longestL l = xs) := ⟨_, hide rfl⟩
    rw [HX.out] at hn
    have hne : (1 + (xs.length : Int) != 1 + (xs.length : Int)) = false := by simp
    clear hp1
    go_enter Try.func5, Try.ntmps5
    go_wp2_with fail
    refine (szTaskS_any _ _ _ _ _ hA (by omega) (by omega) hl HP.out).mono ?_
    rintro e w1 ⟨rfl, hB1⟩
    go_wp2_with fail
    refine (toTaskS_any _ _ _ _ (hA.below hB1) hl1 HP1.out).mono ?_
    rintro e w2 ⟨rfl, hO2, hB2⟩
    have hb2 := next hB1 hB2
    go_wp2_with fail
    refine (specLongestWay_any _ _ _ _ hO2.at_ hl1 HP1.out).mono ?_
    rintro e w3 ⟨v0, rfl, hS0, hB3⟩
    rw [HX.out] at hS0
    obtain ⟨A0, c0, rfl, -, hb0⟩ := hS0.form
    have hb3 := next hb2 hB3
    go_wp2_with fail
    refine (toTaskS_any _ _ _ _ (hA.below hb3) hl1 HP1.out).mono ?_
    rintro e w4 ⟨rfl, hO4, hB4⟩
    have hb4 := next hb3 hB4
    go_wp2_with fail
    refine (implLongestWay_any _ _ _ _ hO4.at_ hl1 HP1.out).mono ?_
    rintro e w5 ⟨v1, rfl, hS1, hB5⟩
    rw [HX.out] at hS1
    obtain ⟨A1, c1, rfl, -, hb1⟩ := hS1.form
    have hb5 := next hb4 hB5
    have hS0_4 := hS0.below hB4
    have hS0_5 := hS0_4.below hB5
    go_wp2_with fail
    refine (eqIntS_same _ _ _ _ _ _ hS1.ints hS0_5.ints hn).mono ?_
    rintro e w6 ⟨rfl, hB6⟩
    have hb6 := next hb5 hB6
    go_wp2_with fail
    refine (toTaskS_any _ _ _ _ (hA.below hb6) hl1 HP1.out).mono ?_
    rintro e w7 ⟨rfl, hO7, hB7⟩
    have hb7 := next hb6 hB7
    have hO4_7 := ((hO4.below hB5).below hB6).below hB7
    go_wp2_with fail
    refine (eqTaskS_same _ _ _ _ _ _ hO4_7.at_ hO7.at_ hl1 HP1.out).mono ?_
    rintro e w8 ⟨rfl, hB8⟩
    have hb8 := next hb7 hB8
    have hIn := ((((hO4.toIn (Nat.le_refl w3.heap.size)).below hB5).below hB6).below hB7).below hB8
    have hS0_8 := ((hS0_5.below hB6).below hB7).below hB8
    have hS1_8 := ((hS1.below hB6).below hB7).below hB8
    have hlo0 : ∀ k, (Value.slice A0 xs.length c0).ownBlock = some k → k < w3.heap.size ∨ w4.heap.size ≤ k := fun k hk => .inl (hS0.lt k hk).2
    have hlo1 : ∀ k, (Value.slice A1 xs.length c1).ownBlock = some k → k < w3.heap.size ∨ w4.heap.size ≤ k := fun k hk => .inr (hS1.lt k hk).1
    have hdiff : (Value.slice A0 xs.length c0).ownBlock = none ∨ (Value.slice A0 xs.length c0).ownBlock ≠ (Value.slice A1 xs.length c1).ownBlock := by
      cases e0 : (Value.slice A0 xs.length c0).ownBlock with
      | none => exact .inl rfl
      | some k =>
        refine .inr fun e1 => ?_
        have a := (hS0.lt k e0).2
        have b := (hS1.lt k e1.symm).1
        have := hB4.size
        omega
    have hge1 : ∀ k, (Value.slice A1 xs.length c1).ownBlock = some k → w.heap.size ≤ k := fun k hk => Nat.le_trans hb4.size (hS1.lt k hk).1
    have HLO0 := hide hlo0
    have HLO1 := hide hlo1
    have HDF := hide hdiff
    have HGE := hide hge1
    clear hlo0 hlo1 hdiff hge1 hO4 hO4_7 hO7 hO2 hS0 hS0_4 hS0_5 hS1 hB2 hB4 hB5 hB6 hB7 hB8
    go_wp2_with fail
    refine (markTaskS_one _ _ _ _ _ _ hIn hl1 HP1.out).mono ?_
    rintro e w9 ⟨r, rfl, hr, hW⟩
    have hb9 : Below w.heap.size w w9 := hb8.trans (hW.below hb3.size hb8.size)
    have hS0_9 := hW.intSl hS0_8 HLO0.out
    have hS1_9 := hW.intSl hS1_8 HLO1.out
    clear hW hIn
    go_wp2_with fail
    refine (eqIntS_same _ _ _ _ _ _ hS1_9.ints hS0_9.ints hn).mono ?_
    rintro e w10 ⟨rfl, hB10⟩
    have hb10 := next hb9 hB10
    have hS0_10 := hS0_9.below hB10
    have hS1_10 := hS1_9.below hB10
    go_wp2_with fail
    refine (markIntS_one _ _ _ _ _ hS1_10 hn).mono ?_
    rintro e w11 ⟨rfl, hS1_11, hg11⟩
    have hb11 : Below w.heap.size w w11 := hb10.grown hg11 hb10.size HGE.out
    have hS0_11 := hS0_10.row hg11 HDF.out
    clear hg11
    go_wp2_with fail
    refine (heldIntS_one _ _ _ _ hS1_11.ints hn).mono ?_
    rintro e w12 ⟨rfl, rfl⟩
    go_wp2_with fail
    refine (toTaskS_any _ _ _ _ (hA.below hb11) hl1 HP1.out).mono ?_
    rintro e w13 ⟨rfl, hO13, hB13⟩
    have hb13 := next hb11 hB13
    go_wp2_with fail
    refine (implLongestWay_any _ _ _ _ hO13.at_ hl1 HP1.out).mono ?_
    rintro e w14 ⟨v2, rfl, hS2, hB14⟩
    rw [HX.out] at hS2
    obtain ⟨A2, c2, rfl, -, hb22⟩ := hS2.form
    have hb14 := next hb13 hB14
    have hS0_14 := (hS0_11.below hB13).below hB14
    have hS1_14 := (hS1_11.below hB13).below hB14
    go_wp2_with fail
    refine (eqIntS_same _ _ _ _ _ _ hS2.ints hS0_14.ints hn).mono ?_
    rintro e w15 ⟨rfl, hB15⟩
    have hb15 := next hb14 hB15
    have hS1_15 := hS1_14.below hB15
    go_wp2_with fail
    refine (heldIntS_one _ _ _ _ hS1_15.ints hn).mono ?_
    rintro e w16 ⟨rfl, rfl⟩
    go_wp2_with fail
    go_ret
    exact ⟨rfl, hb15⟩

set_option maxRecDepth 100000 in
theorem exactLongestWay_contract (H : Type) (enc : TypeId × Value → H) (W : World) (base : Nat) (args : Array Value) (ds gs : List (DataW H)) (before : List MemPlace)
    (hval : ∀ (j : Nat) t v, Try.f5.params[j]? = some t → args[j]? = some v → Value.okWide Try.prog W .any base t v)
    (hW : DataW.Whole enc Try.prog Try.f5.params.toList Rows.fnExactLongestWaySpec.vars false W args.toList ds gs before) :
    Calls Try.prog 5 args W fun e W' => ∃ v, e = .returned v ∧ Rows.fnExactLongestWaySpec.post enc Try.prog Try.f5 false true false false W args v W' := by
  have hW' := hW
  obtain ⟨p, q, hA, hV, rfl, _, _⟩ := hW
  obtain ⟨rfl, rfl⟩ := trodVars_none hV
  rw [Try.params5] at hA
  obtain ⟨v0, vs0, d0, ds0, p0, q0, hargs, rfl, rfl, h0, r0⟩ := trodAll_cons hA
  obtain ⟨rfl, rfl, rfl⟩ := trodAll_nil r0
  obtain rfl : args = #[v0] := by cases args; simp_all
  obtain ⟨a0, len0, cap0, rfl⟩ := okWide_slice Try.underlying36 (hval 0 36 v0 rfl rfl)
  obtain ⟨fuel0, hf0⟩ := h0
  obtain ⟨A0, c0, l0, hcs0, hI0, hl0, hp0⟩ := open_tasks hf0
  simp [Value.cells] at hcs0
  obtain ⟨rfl, rfl, rfl⟩ := hcs0
  refine (exactLongestWay_any _ _ _ W hI0 hl0 hp0).mono fun e W' ⟨he, hb⟩ => ?_
  subst he
  have hts : ∀ t ∈ Try.f5.params.toList, Try.prog.readableRec t = true ∧ t < Try.prog.types.size := by
    rw [Try.params5]
    intro t ht
    simp only [List.mem_cons, List.not_mem_nil, or_false] at ht
    rcases ht with rfl <;> exact ⟨by kernel_rfl, of_decide_eq_true (by kernel_rfl)⟩
  exact ⟨_, rfl, post_true hW' rfl rfl Try.underlying4 hts rfl rfl rfl hb⟩

set_option maxRecDepth 100000 in
theorem exactLongestWay_holds : Rows.FnExactLongestWaySaid :=
  OpenClaim.holds_of_wide 5 Try.f5 rfl rfl rfl rfl rfl rfl rfl ⟨rfl, rfl, rfl, rfl, rfl⟩ rfl rfl rfl rfl rfl (by kernel_rfl) Try.func5 (by kernel_rfl)
    (of_decide_eq_true (by kernel_rfl)) (by unfold Func.isWrapper; first | (rw [if_pos (by decide +kernel)]; kernel_rfl) | (rw [if_neg (by decide +kernel)]; exact ⟨rfl, rfl⟩))
    (fun os started H enc _ => returnsInHanded_of_change (C := Try.checked) own started (by kernel_rfl) Try.func5
      (ChangeSpec.witness6 (enc := enc) (C := Try.checked) false ⟨#[], #[.slice none 0 0], []⟩ 8 (by kernel_rfl) (by kernel_rfl) (by kernel_rfl) (by kernel_rfl))
      (fun W base args ds gs before hval hW _ _ => exactLongestWay_contract H enc W base args ds gs before hval hW))
end Go.Proofs.Ytgagfaajilbmmaa
