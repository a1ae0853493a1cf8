/- The law of MakeRun holds for all drawn bytes; the card: the listed tables are tied to the program's text.
   Conditions: none. -/
import Derived.Test.YtgpcbigaeodhfaaDoorWalkMakeRun
import Derived.Test.YtgpcbigaeodhfaaDoorLawStart
import Derived.Test.YtgpcbigaeodhfaaDoorLawMain
namespace Go.Proofs.YtgpcbigaeodhfaaDoor
open Go.RowKit Go.ChangeShapes Go.WideShapes Go.ChangeAt Go.Deep
noncomputable abbrev startMakeRun (os : Os) : World := (World.laidAll Tryd.prog os laid3).forCall (fun _ _ => 0) ⟨#[], #[.slice none 0 0, .slice none 0 0], []⟩
set_option maxRecDepth 100000 in
theorem startMakeRun_shaped (os : Os) : (startMakeRun os).Shaped Tryd.prog := World.shaped_of_ZipB (by kernel_rfl) (by kernel_rfl)
set_option maxRecDepth 100000 in
theorem startMakeRun_met (os : Os) : laidMet Tryd.prog laid3 (startMakeRun os).memory := laidMet_laidAll _ (by kernel_rfl) (by kernel_rfl)
set_option maxRecDepth 100000 in
theorem lawMakeRun_contract (H : Type) (enc : TypeId × Value → H) (W : World) (base : Nat) (args : Array Value) (ds gs : List (DataW H)) (before : List MemPlace)
    (hval : ∀ (j : Nat) t v, Tryd.f4.params[j]? = some t → args[j]? = some v → Value.okWide Tryd.prog W .any base t v)
    (hW : DataW.Whole enc Tryd.prog Tryd.f4.params.toList Rows.fnMakeRunSpec.vars false W args.toList ds gs before) :
    Calls Tryd.prog 4 args W fun e W' => ∃ v, e = .returned v ∧ Rows.fnMakeRunSpec.post enc Tryd.prog Tryd.f4 false true false false W args v W' := by
  have hW' := hW
  obtain ⟨p, q, hA, hV, rfl, _, _⟩ := hW'
  obtain ⟨rfl, rfl⟩ := trodVars_none hV
  rw [Tryd.params4] at hA
  obtain ⟨v0, vs0, d0, ds0, p0, q0, hargs, rfl, rfl, h0, r0⟩ := trodAll_cons hA
  obtain ⟨v1, vs1, d1, ds1, p1, q1, rfl, rfl, rfl, h1, r1⟩ := trodAll_cons r0
  obtain ⟨rfl, rfl, rfl⟩ := trodAll_nil r1
  obtain rfl : args = #[v0, v1] := by cases args; simp_all
  obtain ⟨a0, len0, cap0, rfl⟩ := okWide_slice Tryd.underlying22 (hval 0 22 v0 (by rw [Tryd.params4]; rfl) rfl)
  obtain ⟨fuel0, hf0⟩ := h0
  obtain ⟨A0, c0, m0, hcs0, hB0, hc0, hc1⟩ := open_bytes hf0
  simp [Value.cells] at hcs0
  obtain ⟨rfl, rfl, rfl⟩ := hcs0
  obtain ⟨a1, len1, cap1, rfl⟩ := okWide_slice Tryd.underlying22 (hval 1 22 v1 (by rw [Tryd.params4]; rfl) rfl)
  obtain ⟨fuel1, hf1⟩ := h1
  obtain ⟨A1, c1, m1, hcs1, hB1, hd0, hd1⟩ := open_bytes hf1
  simp [Value.cells] at hcs1
  obtain ⟨rfl, rfl, rfl⟩ := hcs1
  refine (lawMakeRun_any _ _ _ _ _ _ W hB0 hc0 hc1 hB1 hd0 hd1).mono fun e W' ⟨he, hb⟩ => ?_
  subst he
  have hts : ∀ t ∈ Tryd.f4.params.toList, Tryd.prog.readableRec t = true ∧ t < Tryd.prog.types.size := by
    rw [Tryd.params4]
    intro t ht
    simp only [List.mem_cons, List.not_mem_nil, or_false] at ht
    rcases ht with rfl | rfl <;> exact ⟨by kernel_rfl, of_decide_eq_true (by kernel_rfl)⟩
  exact ⟨_, rfl, post_true hW rfl rfl Tryd.underlying4 hts rfl rfl rfl hb⟩

set_option maxRecDepth 100000 in
theorem lawMakeRun_closed : joinedFacts Tryd.prog 4 Tryd.f4 Rows.fnMakeRunSpec Rows.fnMakeRunRow = true := by
  unfold joinedFacts
  rw [enters_is, lifts_is, make_is]
  kernel_rfl

set_option maxRecDepth 100000 in
theorem lawMakeRun_holds : Rows.FnMakeRunSaid :=
  OpenClaim.holds_of_wide 4 Tryd.f4 rfl rfl rfl rfl rfl rfl rfl ⟨rfl, rfl, rfl, rfl, rfl⟩ rfl rfl rfl rfl rfl (by kernel_rfl) Tryd.func4 lawMakeRun_closed
    (of_decide_eq_true (by kernel_rfl)) (by unfold Func.isWrapper; first | (rw [if_pos (by decide +kernel)]; kernel_rfl) | (rw [if_neg (by decide +kernel)]; exact ⟨rfl, rfl⟩))
    (fun os started H enc _ => returnsInHanded_of_change_and (C := Tryd.checked) (X := fun w _ => laidMet Tryd.prog laid3 w) (fun _ _ _ hh h => h.of_heap hh) own started (by kernel_rfl) Tryd.func4
      (ChangeSpec.witness_shaped (enc := enc) (C := Tryd.checked) (os := os) (X := fun w _ => laidMet Tryd.prog laid3 w) false (World.laidAll Tryd.prog os laid3) #[.slice none 0 0, .slice none 0 0] 8 (World.laidAll_os _ _ _) (startMakeRun_shaped os) (by kernel_rfl) (by kernel_rfl) (by kernel_rfl) (startMakeRun_met os))
      (fun W base args ds gs before hval hW _ _ _ _ => lawMakeRun_contract H enc W base args ds gs before hval hW ))

set_option maxRecDepth 100000 in
theorem lawMakeRun_card : Rows.FnMakeRunCardSaid :=
  Claim7.holds_tied_plain_at .later [] [.data, .data, .data] true (true, "ef75af139aee1dd3ce56cd26cfe9014b5bcd58ded204b5a1e0a030abbadb989b") false
    lawMakeRun_holds (fun _ h => by cases h) (by kernel_rfl) (fun _ h => by cases h) fnMakeRun_row_tie rfl ⟨rfl, rfl⟩ main_is rfl
    (fun f fn hf hfn => by
      obtain rfl : f = 4 := Option.some.inj ((show Tryd.prog.funcNamed "loop.example/restaurantkitchen/laws.FnMakeRun" = some 4 by kernel_rfl).symm.trans hf) |>.symm
      obtain rfl : fn = Tryd.f4 := (Option.some.inj (Tryd.func4.symm.trans hfn)).symm
      exact ⟨by kernel_rfl, fun j t ht => by
        rw [Tryd.params4] at ht
        have h3 : t = 22 := by
          rcases j with _ | _ | j
          · simpa using ht.symm
          · simpa using ht.symm
          · simp at ht
        subst h3
        exact (show Tryd.prog.wantsStandIn 22 = false by kernel_rfl)⟩)
    (by kernel_rfl)
end Go.Proofs.YtgpcbigaeodhfaaDoor
