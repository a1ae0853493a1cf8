/- For every list of tickets the exact law of WorkLeft answers true, and its arguments read as they did.
   Conditions: none. -/
import Derived.Test.YtniinnopifapbaaDoorRead2
import Derived.Test.YtniinnopifapbaaDoorExKit
import Derived.Test.YtniinnopifapbaaDoorCards
import Derived.Test.YtniinnopifapbaaDoorTick7
import Derived.Test.YtniinnopifapbaaDoorTie
import Derived.ChangeVars
import Derived.LaidLaws
import Derived.Lay
import Derived.SevenTiedAt
import Derived.JoinedAt
namespace Go.Proofs.YtniinnopifapbaaDoor
open Go.RowKit Go.ChangeShapes Go.WideShapes Go.ChangeAt Go.Deep

set_option maxRecDepth 100000 in
set_option maxHeartbeats 2000000 in
theorem exactWorkLeft_any (A0 : Option Addr) (c0 : Nat) (x0 : List (List Order)) (w : World) (hA0 : TicksAt w A0 x0) (hl0 : x0.length ≤ 9223372036854775807) (hp0 : ∀ x ∈ x0, x.length ≤ 9223372036854775807) (hTP : PiecesAt w) :
    Calls Tryd.prog 11 #[.slice A0 x0.length c0] w fun e w' => e = .returned (.bool true) ∧ Below w.heap.size w w' := by
  have HP0 := hide hp0
  clear hp0
  by_cases h0z : szTicks (1048576) x0 < 0
  · go_enter Tryd.func11, Tryd.ntmps11
    go_wp2_with fail
    refine (szOrderSS_any _ _ _ _ _ hA0 (by omega) (by omega) hl0 HP0.out).mono ?_
    rintro e w1 ⟨rfl, hB1⟩
    have hb1 := hB1
    go_wp2_with fail
    go_ret
    exact ⟨rfl, hb1⟩
  · obtain ⟨hl0s, hp0s⟩ := szTicks_le (by omega) h0z
    have HQ0 := hide hp0s
    clear hp0s
    have hbb0 : (workLeftL x0 != workLeftL x0) = false := by simp
    go_enter Tryd.func11, Tryd.ntmps11
    go_wp2_with fail
    refine (szOrderSS_any _ _ _ _ _ hA0 (by omega) (by omega) hl0 HP0.out).mono ?_
    rintro e w1 ⟨rfl, hB1⟩
    have hb1 := hB1
    go_wp2_with fail
    refine (toOrderSS_any _ _ _ _ (hA0.below hb1) hl0s HQ0.out).mono ?_
    rintro e w2 ⟨rfl, hO0_2, hB2⟩
    have hb2 := next hb1 hB2
    go_wp2_with fail
    refine (specWorkLeft_any _ _ _ _ hO0_2.at_ hl0s HQ0.out).mono ?_
    rintro e w3 ⟨rfl, hB3⟩
    have hb3 := next hb2 hB3
    have hO0_3 := hO0_2.below hB3
    clear hO0_2
    go_wp2_with fail
    refine (toOrderSS_any _ _ _ _ (hA0.below hb3) hl0s HQ0.out).mono ?_
    rintro e w4 ⟨rfl, hO0_4, hB4⟩
    have hb4 := next hb3 hB4
    go_wp2_with fail
    refine (implWorkLeft_any _ _ _ _ hO0_4.at_ hl0s HQ0.out (hTP.below hb4)).mono ?_
    rintro e w5 ⟨rfl, hB5⟩
    have hb5 := next hb4 hB5
    have hO0_5 := hO0_4.below hB5
    clear hO0_4
    go_wp2_with fail
    refine (toOrderSS_any _ _ _ _ (hA0.below hb5) hl0s HQ0.out).mono ?_
    rintro e w6 ⟨rfl, hV0_6, hB6⟩
    have hb6 := next hb5 hB6
    have hO0_6 := hO0_5.below hB6
    clear hO0_5
    go_wp2_with fail
    refine (eqOrderSS_same _ _ _ _ _ _ hO0_6.at_ hV0_6.at_ hl0s HQ0.out).mono ?_
    rintro e w7 ⟨rfl, hB7⟩
    have hb7 := next hb6 hB7
    go_wp2_with fail
    go_ret
    exact ⟨rfl, hb7⟩

def laidWorkLeft : List (String × DataW Unit) := [("loop.example/restaurantkitchen/impl.piecesLeft", Rows.laid_loop_example_restaurantkitchen_impl_piecesLeft)]
noncomputable abbrev startWorkLeft (os : Os) : World := (World.laidAll Tryd.prog os laidWorkLeft).forCall (fun _ _ => 0) ⟨#[], #[.slice none 0 0], []⟩
set_option maxRecDepth 100000 in
theorem startWorkLeft_shaped (os : Os) : (startWorkLeft os).Shaped Tryd.prog := World.shaped_of_ZipB (by kernel_rfl) (by kernel_rfl)
set_option maxRecDepth 100000 in
theorem startWorkLeft_met (os : Os) : laidMet Tryd.prog laidWorkLeft (startWorkLeft os).memory := laidMet_laidAll _ (by kernel_rfl) (by kernel_rfl)

theorem exactWorkLeft_contract (H : Type) (enc : TypeId × Value → H) (W : World) (base : Nat) (args : Array Value) (ds gs : List (DataW H)) (before : List MemPlace)
    (hval : ∀ (j : Nat) t v, Tryd.f11.params[j]? = some t → args[j]? = some v → Value.okWide Tryd.prog W .any base t v)
    (hW : DataW.Whole enc Tryd.prog Tryd.f11.params.toList Rows.fnExactWorkLeftSpec.vars false W args.toList ds gs before) (hL : laidMet Tryd.prog laidWorkLeft W) :
    Calls Tryd.prog 11 args W fun e W' => ∃ v, e = .returned v ∧ Rows.fnExactWorkLeftSpec.post enc Tryd.prog Tryd.f11 false true false false W args v W' := by
  have hTP : PiecesAt W := piecesAt_of hL (by simp [laidWorkLeft])
  have hW' := hW
  obtain ⟨p, q, hA, hV, rfl, _, _⟩ := hW
  obtain ⟨z0, rfl⟩ := len1 (trodVars_len hV)
  rw [Tryd.params11] at hA
  obtain ⟨v0, vs0, d0, ds0, p0, q0, hargs, rfl, rfl, h0, r0⟩ := trodAll_cons hA
  obtain ⟨rfl, rfl, rfl⟩ := trodAll_nil r0
  obtain rfl : args = #[v0] := by cases args; simp_all
  obtain ⟨a0, len0, cap0, rfl⟩ := okWide_slice Tryd.underlying38 (hval 0 38 v0 rfl rfl)
  obtain ⟨fuel0, hf0⟩ := h0
  obtain ⟨A0, c0, l0, hcs0, hI0, hl0, hp0⟩ := open_ticks hf0
  simp [Value.cells] at hcs0
  obtain ⟨rfl, rfl, rfl⟩ := hcs0
  refine (exactWorkLeft_any _ _ _ W hI0 hl0 hp0 hTP).mono fun e W' ⟨he, hb⟩ => ?_
  subst he
  have hts : ∀ t ∈ Tryd.f11.params.toList, Tryd.prog.readableRec t = true ∧ t < Tryd.prog.types.size := by
    rw [Tryd.params11]
    intro t ht
    simp only [List.mem_cons, List.not_mem_nil, or_false] at ht
    rcases ht with rfl <;> exact ⟨by kernel_rfl, of_decide_eq_true (by kernel_rfl)⟩
  have hgv : ∀ n ∈ Rows.fnExactWorkLeftSpec.vars, ∀ g t, Tryd.prog.globalNamed n = some g → (Tryd.prog.globals[g]?).map (·.type) = some t → Tryd.prog.readableRec t = true ∧ t < Tryd.prog.types.size := by
    intro n hn
    simp only [Rows.fnExactWorkLeftSpec, List.mem_cons, List.not_mem_nil, or_false] at hn
    rcases hn with rfl
    exact glob_pieces
  exact ⟨_, rfl, post_trueV hW' rfl Tryd.underlying4 hts hgv rfl rfl rfl hb⟩

set_option maxRecDepth 100000 in
theorem exactWorkLeft_holds : Rows.FnExactWorkLeftSaid :=
  OpenClaim.holds_of_wide 11 Tryd.f11 rfl rfl rfl rfl rfl rfl rfl ⟨rfl, rfl, rfl, rfl, rfl⟩ rfl rfl rfl rfl rfl (by kernel_rfl) Tryd.func11 (by kernel_rfl)
    (of_decide_eq_true (by kernel_rfl)) (by unfold Func.isWrapper; first | (rw [if_pos (by decide +kernel)]; kernel_rfl) | (rw [if_neg (by decide +kernel)]; exact ⟨rfl, rfl⟩))
    (fun os started H enc _ => returnsInHanded_of_change_and (C := Tryd.checked) (X := fun w _ => laidMet Tryd.prog laidWorkLeft w) (fun _ _ _ hh h => h.of_heap hh) own started (by kernel_rfl) Tryd.func11
      (ChangeSpec.witness_shaped (enc := enc) (C := Tryd.checked) (os := os) (X := fun w _ => laidMet Tryd.prog laidWorkLeft w) false (World.laidAll Tryd.prog os laidWorkLeft) #[.slice none 0 0] 8 (World.laidAll_os _ _ _) (startWorkLeft_shaped os) (by kernel_rfl) (by kernel_rfl) (by kernel_rfl) (startWorkLeft_met os))
      (fun W base args ds gs before hval hW _ _ hL _ => exactWorkLeft_contract H enc W base args ds gs before hval hW hL))

set_option maxRecDepth 100000 in
theorem exactWorkLeft_card : Rows.FnExactWorkLeftCardSaid :=
  Claim7.holds_tied_plain_at .later [] [.data] true (true, "1eaa6792232b63890c2c232c7fdad1794d27329ef416c0161ab79356836519ca") false
    exactWorkLeft_holds (fun _ h => by cases h) (by kernel_rfl) (fun _ h => by cases h) fnExactWorkLeft_row_tie rfl ⟨rfl, rfl⟩ (by kernel_rfl) rfl
    (fun f fn hf hfn => by
      obtain rfl : f = 11 := Option.some.inj ((show Tryd.prog.funcNamed "loop.example/restaurantkitchen/laws.FnExactWorkLeft" = some 11 by kernel_rfl).symm.trans hf) |>.symm
      obtain rfl : fn = Tryd.f11 := (Option.some.inj (Tryd.func11.symm.trans hfn)).symm
      exact ⟨by kernel_rfl, fun j t ht => by
        rw [Tryd.params11] at ht
        have h3 : t = 38 := by
          rcases j with _ | j
          · simpa using ht.symm
          · simp at ht
        rcases h3 with rfl
        · exact (show Tryd.prog.wantsStandIn 38 = false by kernel_rfl)⟩)
    (by kernel_rfl)
end Go.Proofs.YtniinnopifapbaaDoor
