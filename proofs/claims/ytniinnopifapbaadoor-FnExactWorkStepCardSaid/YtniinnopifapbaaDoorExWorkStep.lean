/- For every list of tickets the exact law of WorkStep answers true, and its arguments read as they did.
   Conditions: none. -/
import Derived.Test.YtniinnopifapbaaDoorRead2
import Derived.Test.YtniinnopifapbaaDoorExKit
import Derived.Test.YtniinnopifapbaaDoorCards
import Derived.Test.YtniinnopifapbaaDoorMarks2
import Derived.Test.YtniinnopifapbaaDoorOMark
import Derived.Test.YtniinnopifapbaaDoorSlKit
import Derived.Test.YtniinnopifapbaaDoorTick8
import Derived.Test.YtniinnopifapbaaDoorTick10
import Derived.Test.YtniinnopifapbaaDoorTie
import Derived.ChangeVars
import Derived.LaidLaws
import Derived.Lay
import Derived.SevenTiedAt
import Derived.JoinedAt
namespace Go.Proofs.YtniinnopifapbaaDoor
open Go.RowKit Go.ChangeShapes Go.WideShapes Go.ChangeAt Go.Deep

set_option maxRecDepth 100000 in
set_option maxHeartbeats 2000000 in
theorem exactWorkStep_any (A0 : Option Addr) (c0 : Nat) (x0 : List (List Order)) (w : World) (hA0 : TicksAt w A0 x0) (hl0 : x0.length ≤ 9223372036854775807) (hp0 : ∀ x ∈ x0, x.length ≤ 9223372036854775807) (hTN : NextAt w) (hTP : PiecesAt w) :
    Calls Tryd.prog 10 #[.slice A0 x0.length c0] w fun e w' => e = .returned (.bool true) ∧ Below w.heap.size w w' := by
  have HP0 := hide hp0
  clear hp0
  by_cases h0z : szTicks (1048576) x0 < 0
  · go_enter Tryd.func10, Tryd.ntmps10
    go_wp2_with fail
    refine (szOrderSS_any _ _ _ _ _ hA0 (by omega) (by omega) hl0 HP0.out).mono ?_
    rintro e w1 ⟨rfl, hB1⟩
    have hb1 := hB1
    go_wp2_with fail
    go_ret
    exact ⟨rfl, hb1⟩
  · obtain ⟨hl0s, hp0s⟩ := szTicks_le (by omega) h0z
    have HQ0 := hide hp0s
    clear hp0s
    obtain ⟨ok, HK⟩ : ∃ ok, Hid ((workStepL x0).2 = ok) := ⟨_, hide rfl⟩
    have hbb : (ok != ok) = false := by simp
    obtain ⟨hn, hrw⟩ := workStep_rows x0
    obtain ⟨us, HX⟩ : ∃ us, Hid ((workStepL x0).1 = us) := ⟨_, hide rfl⟩
    rw [HX.out] at hn hrw
    have HUS := hide hrw
    clear hrw
    obtain ⟨r, HR⟩ : ∃ r, Hid (markEndT 1 us = r) := ⟨_, hide rfl⟩
    have hr : 0 ≤ r := by rw [← HR.out]; exact markEndT_ge us 1 (by omega)
    have hne : (r != r) = false := by simp
    obtain ⟨rk, HRK⟩ : ∃ rk, Hid (markEndT 1 x0 = rk) := ⟨_, hide rfl⟩
    have hrk : 0 ≤ rk := by rw [← HRK.out]; exact markEndT_ge x0 1 (by omega)
    go_enter Tryd.func10, Tryd.ntmps10
    go_wp2_with fail
    refine (szOrderSS_any _ _ _ _ _ hA0 (by omega) (by omega) hl0 HP0.out).mono ?_
    rintro e w1 ⟨rfl, hB1⟩
    have hb1 := hB1
    go_wp2_with fail
    refine (toOrderSS_any _ _ _ _ (hA0.below hb1) hl0s HQ0.out).mono ?_
    rintro e w2 ⟨rfl, hO, hB2⟩
    have hb2 := next hb1 hB2
    go_wp2_with fail
    refine (specWorkStep_any _ _ _ _ hO.at_ hl0s HQ0.out).mono ?_
    rintro e w3 ⟨v0, rfl, hS0, hB3⟩
    rw [HX.out] at hS0
    rw [HK.out]
    obtain ⟨A0_, c0_, rfl, -⟩ := hS0.form
    have HS0 := hide hS0
    have hb3 := next hb2 hB3
    clear hO hS0
    have hd3 := Below.refl w3.heap.size w3
    go_wp2_with fail
    refine (toOrderSS_any _ _ _ _ (hA0.below hb3) hl0s HQ0.out).mono ?_
    rintro e w4 ⟨rfl, hO, hB4⟩
    have hb4 := next hb3 hB4
    have hd4 := next hd3 hB4
    have HTO := hide (TickSl.to hO)
    have hsz3 := hb3.size
    have hszc := hB4.size
    have hbc := hb4.size
    go_wp2_with fail
    refine (implWorkStep_any _ _ _ _ hO.at_ hl0s HQ0.out (hTP.below hb4) (hTN.below hb4)).mono ?_
    rintro e w5 ⟨v1, rfl, hS1, hB5⟩
    rw [HX.out] at hS1
    rw [HK.out]
    obtain ⟨A1_, c1_, rfl, -⟩ := hS1.form
    have hb5 := next hb4 hB5
    have hd5 := next hd4 hB5
    have HO5 := hide (hO.below hB5)
    have HTO5 := hide (HTO.out.below hB5)
    have HS1_5 := hide hS1
    clear hO HTO hS1 hd4
    go_wp2_with fail
    refine (eqOrderSS_same _ _ _ _ _ _ HS1_5.out.rows (HS0.out.below hd5).rows hn HUS.out).mono ?_
    rintro e w6 ⟨rfl, hB6⟩
    have hb6 := next hb5 hB6
    have hd6 := next hd5 hB6
    have HO6 := hide (HO5.out.below hB6)
    have HTO6 := hide (HTO5.out.below hB6)
    have HS1_6 := hide (HS1_5.out.below hB6)
    clear HO5 HTO5 HS1_5
    go_wp2_with fail
    refine (toOrderSS_any _ _ _ _ (hA0.below hb6) hl0s HQ0.out).mono ?_
    rintro e w7 ⟨rfl, hV, hB7⟩
    have hb7 := next hb6 hB7
    have hd7 := next hd6 hB7
    have HO7 := hide (HO6.out.below hB7)
    have HTO7 := hide (HTO6.out.below hB7)
    have HS1_7 := hide (HS1_6.out.below hB7)
    clear HO6 HTO6 HS1_6
    have HV := hide hV.at_
    clear hV
    go_wp2_with fail
    refine (eqOrderSS_same _ _ _ _ _ _ HO7.out.at_ HV.out hl0s HQ0.out).mono ?_
    rintro e w8 ⟨rfl, hB8⟩
    have hb8 := next hb7 hB8
    have hd8 := next hd7 hB8
    have HO8 := hide (HO7.out.below hB8)
    have HTO8 := hide (HTO7.out.below hB8)
    have HS1_8 := hide (HS1_7.out.below hB8)
    clear HO7 HTO7 HS1_7
    clear HO8 HV
    go_wp2_with fail
    refine (markOrderSS_to _ _ _ _ _ _ _ HTO8.out hl0s HQ0.out (by omega) (by omega)).mono ?_
    rintro e w9 ⟨rfl, -, hM⟩
    rw [HRK.out]
    have hlow : w3.heap.size ≤ w8.heap.size := hd8.size
    have hb9 : Below w.heap.size w w9 := hb8.trans ((hM.below hlow).mono hsz3)
    have hd9 : Below w3.heap.size w3 w9 := hd8.trans (hM.below hlow)
    have HS1_9 := hide (HS1_8.out.mid hM (Nat.le_refl _))
    clear HTO8 HS1_8 hM hlow hd8
    go_wp2_with fail
    refine (eqOrderSS_same _ _ _ _ _ _ HS1_9.out.rows (HS0.out.below hd9).rows hn HUS.out).mono ?_
    rintro e w10 ⟨rfl, hB10⟩
    have hb10 := next hb9 hB10
    have hd10 := next hd9 hB10
    have HS1_10 := hide (HS1_9.out.below hB10)
    clear HS1_9
    go_wp2_with fail
    refine (markOrderSS_any _ _ _ _ _ _ HS1_10.out hn HUS.out (by omega) (by omega)).mono ?_
    rintro e w11 ⟨rfl, hS1, hL⟩
    rw [HR.out]
    have hb11 : Below w.heap.size w w11 := hb10.trans (hL.mono hbc)
    have hd11 : Below w3.heap.size w3 w11 := hd10.trans (hL.mono hszc)
    have HRW11 : Hid (TicksAt w11 A1_ (markGoT 1 us)) := hide (by
      obtain ⟨A', c', e, hI⟩ := hS1.form
      injection e with e
      rw [e]
      exact hI)
    clear hS1 hL HS1_10 hd10
    go_wp2_with fail
    refine (heldOrderSS_any _ _ _ _ _ HRW11.out hn HUS.out (by omega) (by omega)).mono ?_
    rintro e wh ⟨rfl, hwh⟩
    subst hwh
    rw [HR.out]
    go_wp2_with fail
    refine (toOrderSS_any _ _ _ _ (hA0.below hb11) hl0s HQ0.out).mono ?_
    rintro e w12 ⟨rfl, hO, hB12⟩
    have hb12 := next hb11 hB12
    have hd12 := next hd11 hB12
    have HRW12 := hide (HRW11.out.below hB12)
    clear HRW11
    go_wp2_with fail
    refine (implWorkStep_any _ _ _ _ hO.at_ hl0s HQ0.out (hTP.below hb12) (hTN.below hb12)).mono ?_
    rintro e w13 ⟨v2, rfl, hS2, hB13⟩
    rw [HX.out] at hS2
    rw [HK.out]
    obtain ⟨A2_, c2_, rfl, -⟩ := hS2.form
    have hb13 := next hb12 hB13
    have hd13 := next hd12 hB13
    have HRW13 := hide (HRW12.out.below hB13)
    clear HRW12
    have HS2_13 := hide hS2
    clear hO hS2
    go_wp2_with fail
    refine (eqOrderSS_same _ _ _ _ _ _ HS2_13.out.rows (HS0.out.below hd13).rows hn HUS.out).mono ?_
    rintro e w14 ⟨rfl, hB14⟩
    have hb14 := next hb13 hB14
    have HRW14 := hide (HRW13.out.below hB14)
    clear HRW13
    go_wp2_with fail
    refine (heldOrderSS_any _ _ _ _ _ HRW14.out hn HUS.out (by omega) (by omega)).mono ?_
    rintro e wh ⟨rfl, hwh⟩
    subst hwh
    rw [HR.out]
    go_wp2_with fail
    go_ret
    exact ⟨rfl, hb14⟩

def laidWorkStep : List (String × DataW Unit) := [("loop.example/restaurantkitchen/impl.nextState", Rows.laid_loop_example_restaurantkitchen_impl_nextState), ("loop.example/restaurantkitchen/impl.piecesLeft", Rows.laid_loop_example_restaurantkitchen_impl_piecesLeft)]
noncomputable abbrev startWorkStep (os : Os) : World := (World.laidAll Tryd.prog os laidWorkStep).forCall (fun _ _ => 0) ⟨#[], #[.slice none 0 0], []⟩
set_option maxRecDepth 100000 in
theorem startWorkStep_shaped (os : Os) : (startWorkStep os).Shaped Tryd.prog := World.shaped_of_ZipB (by kernel_rfl) (by kernel_rfl)
set_option maxRecDepth 100000 in
theorem startWorkStep_met (os : Os) : laidMet Tryd.prog laidWorkStep (startWorkStep os).memory := laidMet_laidAll _ (by kernel_rfl) (by kernel_rfl)

theorem exactWorkStep_contract (H : Type) (enc : TypeId × Value → H) (W : World) (base : Nat) (args : Array Value) (ds gs : List (DataW H)) (before : List MemPlace)
    (hval : ∀ (j : Nat) t v, Tryd.f10.params[j]? = some t → args[j]? = some v → Value.okWide Tryd.prog W .any base t v)
    (hW : DataW.Whole enc Tryd.prog Tryd.f10.params.toList Rows.fnExactWorkStepSpec.vars false W args.toList ds gs before) (hL : laidMet Tryd.prog laidWorkStep W) :
    Calls Tryd.prog 10 args W fun e W' => ∃ v, e = .returned v ∧ Rows.fnExactWorkStepSpec.post enc Tryd.prog Tryd.f10 false true false false W args v W' := by
  have hTN : NextAt W := nextAt_of hL (by simp [laidWorkStep])
  have hTP : PiecesAt W := piecesAt_of hL (by simp [laidWorkStep])
  have hW' := hW
  obtain ⟨p, q, hA, hV, rfl, _, _⟩ := hW
  obtain ⟨z0, z1, rfl⟩ := len2 (trodVars_len hV)
  rw [Tryd.params10] at hA
  obtain ⟨v0, vs0, d0, ds0, p0, q0, hargs, rfl, rfl, h0, r0⟩ := trodAll_cons hA
  obtain ⟨rfl, rfl, rfl⟩ := trodAll_nil r0
  obtain rfl : args = #[v0] := by cases args; simp_all
  obtain ⟨a0, len0, cap0, rfl⟩ := okWide_slice Tryd.underlying38 (hval 0 38 v0 rfl rfl)
  obtain ⟨fuel0, hf0⟩ := h0
  obtain ⟨A0, c0, l0, hcs0, hI0, hl0, hp0⟩ := open_ticks hf0
  simp [Value.cells] at hcs0
  obtain ⟨rfl, rfl, rfl⟩ := hcs0
  refine (exactWorkStep_any _ _ _ W hI0 hl0 hp0 hTN hTP).mono fun e W' ⟨he, hb⟩ => ?_
  subst he
  have hts : ∀ t ∈ Tryd.f10.params.toList, Tryd.prog.readableRec t = true ∧ t < Tryd.prog.types.size := by
    rw [Tryd.params10]
    intro t ht
    simp only [List.mem_cons, List.not_mem_nil, or_false] at ht
    rcases ht with rfl <;> exact ⟨by kernel_rfl, of_decide_eq_true (by kernel_rfl)⟩
  have hgv : ∀ n ∈ Rows.fnExactWorkStepSpec.vars, ∀ g t, Tryd.prog.globalNamed n = some g → (Tryd.prog.globals[g]?).map (·.type) = some t → Tryd.prog.readableRec t = true ∧ t < Tryd.prog.types.size := by
    intro n hn
    simp only [Rows.fnExactWorkStepSpec, List.mem_cons, List.not_mem_nil, or_false] at hn
    rcases hn with rfl | rfl <;> first | exact glob_pieces | exact glob_next
  exact ⟨_, rfl, post_trueV hW' rfl Tryd.underlying4 hts hgv rfl rfl rfl hb⟩

set_option maxRecDepth 100000 in
theorem exactWorkStep_holds : Rows.FnExactWorkStepSaid :=
  OpenClaim.holds_of_wide 10 Tryd.f10 rfl rfl rfl rfl rfl rfl rfl ⟨rfl, rfl, rfl, rfl, rfl⟩ rfl rfl rfl rfl rfl (by kernel_rfl) Tryd.func10 (by kernel_rfl)
    (of_decide_eq_true (by kernel_rfl)) (by unfold Func.isWrapper; first | (rw [if_pos (by decide +kernel)]; kernel_rfl) | (rw [if_neg (by decide +kernel)]; exact ⟨rfl, rfl⟩))
    (fun os started H enc _ => returnsInHanded_of_change_and (C := Tryd.checked) (X := fun w _ => laidMet Tryd.prog laidWorkStep w) (fun _ _ _ hh h => h.of_heap hh) own started (by kernel_rfl) Tryd.func10
      (ChangeSpec.witness_shaped (enc := enc) (C := Tryd.checked) (os := os) (X := fun w _ => laidMet Tryd.prog laidWorkStep w) false (World.laidAll Tryd.prog os laidWorkStep) #[.slice none 0 0] 8 (World.laidAll_os _ _ _) (startWorkStep_shaped os) (by kernel_rfl) (by kernel_rfl) (by kernel_rfl) (startWorkStep_met os))
      (fun W base args ds gs before hval hW _ _ hL _ => exactWorkStep_contract H enc W base args ds gs before hval hW hL))

set_option maxRecDepth 100000 in
theorem exactWorkStep_card : Rows.FnExactWorkStepCardSaid :=
  Claim7.holds_tied_plain_at .later [] [.data, .data] true (true, "1eaa6792232b63890c2c232c7fdad1794d27329ef416c0161ab79356836519ca") false
    exactWorkStep_holds (fun _ h => by cases h) (by kernel_rfl) (fun _ h => by cases h) fnExactWorkStep_row_tie rfl ⟨rfl, rfl⟩ (by kernel_rfl) rfl
    (fun f fn hf hfn => by
      obtain rfl : f = 10 := Option.some.inj ((show Tryd.prog.funcNamed "loop.example/restaurantkitchen/laws.FnExactWorkStep" = some 10 by kernel_rfl).symm.trans hf) |>.symm
      obtain rfl : fn = Tryd.f10 := (Option.some.inj (Tryd.func10.symm.trans hfn)).symm
      exact ⟨by kernel_rfl, fun j t ht => by
        rw [Tryd.params10] at ht
        have h3 : t = 38 := by
          rcases j with _ | j
          · simpa using ht.symm
          · simp at ht
        rcases h3 with rfl
        · exact (show Tryd.prog.wantsStandIn 38 = false by kernel_rfl)⟩)
    (by kernel_rfl)
end Go.Proofs.YtniinnopifapbaaDoor
