/- The law of ReadItem holds for all drawn bytes; the card: the listed tables are tied to the program's text.
   Conditions: none. -/
import Derived.Test.YtaelapimchmbcaaDoorWalkReadItem
import Derived.Test.YtaelapimchmbcaaDoorLibStart
import Derived.Test.YtaelapimchmbcaaDoorLawStart
import Derived.Test.YtaelapimchmbcaaDoorLawMain
namespace Go.Proofs.YtaelapimchmbcaaDoor
open Go.RowKit Go.ChangeShapes Go.WideShapes Go.ChangeAt Go.Deep
set_option maxRecDepth 100000 in
theorem lawReadItem_contract (H : Type) (enc : TypeId × Value → H) (W : World) (base : Nat) (args : Array Value) (ds gs : List (DataW H)) (before : List MemPlace)
    (hval : ∀ (j : Nat) t v, Tryd.f4.params[j]? = some t → args[j]? = some v → Value.okWide Tryd.prog W .any base t v)
    (hW : DataW.Whole enc Tryd.prog Tryd.f4.params.toList Rows.fnReadItemSpec.vars false W args.toList ds gs before) (hL : laidMet Tryd.prog laid7 W) (hsh : W.ShapedOpen Tryd.prog) :
    Calls Tryd.prog 4 args W fun e W' => ∃ v, e = .returned v ∧ Rows.fnReadItemSpec.post enc Tryd.prog Tryd.f4 false true false false W args v W' := by
  have hW' := hW
  obtain ⟨p, q, hA, hV, rfl, _, _⟩ := hW'
  obtain ⟨rfl, rfl⟩ := trodVars_none hV
  rw [Tryd.params4] at hA
  obtain ⟨v0, vs0, d0, ds0, p0, q0, hargs, rfl, rfl, h0, r0⟩ := trodAll_cons hA
  obtain ⟨rfl, rfl, rfl⟩ := trodAll_nil r0
  obtain rfl : args = #[v0] := by cases args; simp_all
  obtain ⟨a0, len0, cap0, rfl⟩ := okWide_slice Tryd.underlying22 (hval 0 22 v0 (by rw [Tryd.params4]; rfl) rfl)
  obtain ⟨fuel0, hf0⟩ := h0
  obtain ⟨A0, c0, m0, hcs0, hB0, hc0, hc1⟩ := open_bytes hf0
  simp [Value.cells] at hcs0
  obtain ⟨rfl, rfl, rfl⟩ := hcs0
  refine (lawReadItem_any _ _ _ W hB0 hc0 hc1 (libAt_of hL hsh)).mono fun e W' ⟨he, hb⟩ => ?_
  subst he
  have hts : ∀ t ∈ Tryd.f4.params.toList, Tryd.prog.readableRec t = true ∧ t < Tryd.prog.types.size := by
    rw [Tryd.params4]
    intro t ht
    simp only [List.mem_cons, List.not_mem_nil, or_false] at ht
    rcases ht with rfl
    exact ⟨by kernel_rfl, of_decide_eq_true (by kernel_rfl)⟩
  exact ⟨_, rfl, post_true hW rfl rfl Tryd.underlying4 hts rfl rfl rfl hb⟩

set_option maxRecDepth 100000 in
theorem lawReadItem_closed : joinedFacts Tryd.prog 4 Tryd.f4 Rows.fnReadItemSpec Rows.fnReadItemRow = true := by
  unfold joinedFacts
  rw [enters_is, lifts_is, make_is]
  kernel_rfl

set_option maxRecDepth 100000 in
theorem lawReadItem_holds : Rows.FnReadItemSaid :=
  OpenClaim.holds_of_wide 4 Tryd.f4 rfl rfl rfl rfl rfl rfl rfl ⟨rfl, rfl, rfl, rfl, rfl⟩ rfl rfl rfl rfl rfl (by kernel_rfl) Tryd.func4 lawReadItem_closed
    (of_decide_eq_true (by kernel_rfl)) (by unfold Func.isWrapper; first | (rw [if_pos (by decide +kernel)]; kernel_rfl) | (rw [if_neg (by decide +kernel)]; exact ⟨rfl, rfl⟩))
    (fun os started H enc _ => returnsInHanded_both (C := Tryd.checked) (X := fun w _ => laidMet Tryd.prog laid7 w) (fun _ _ _ hh h => h.of_heap hh) own started (by kernel_rfl) Tryd.func4
      (ChangeSpec.witness_shaped (enc := enc) (C := Tryd.checked) (os := os) (X := fun w _ => laidMet Tryd.prog laid7 w) false (World.laidAll Tryd.prog os laid7) #[.slice none 0 0] 8 (World.laidAll_os _ _ _) (start7_shaped os) (by kernel_rfl) (by kernel_rfl) (by kernel_rfl) (start7_met os))
      (fun W base args ds gs before hval hW hL hsh => lawReadItem_contract H enc W base args ds gs before hval hW hL hsh))

set_option maxRecDepth 100000 in
theorem lawReadItem_card : Rows.FnReadItemCardSaid :=
  Claim7.holds_tied_plain_at .later [] [.data, .data, .data, .data, .sentinel, .sentinel, .pinned] true (true, "42ed73576d0d23b1fe78a90f9f0287912c31cf7ada755f8b512e18aefeda310c") true
    lawReadItem_holds (fun _ h => by cases h) (by kernel_rfl) (fun _ h => by cases h) fnReadItem_row_tie rfl ⟨rfl, rfl⟩ main_is rfl
    (fun f fn hf hfn => by
      obtain rfl : f = 4 := Option.some.inj ((show Tryd.prog.funcNamed "loop.example/restaurantkitchen/laws.FnReadItem" = some 4 by kernel_rfl).symm.trans hf) |>.symm
      obtain rfl : fn = Tryd.f4 := (Option.some.inj (Tryd.func4.symm.trans hfn)).symm
      exact ⟨by kernel_rfl, fun j t ht => by
        rw [Tryd.params4] at ht
        have h3 : t = 22 := by
          rcases j with _ | j
          · simpa using ht.symm
          · simp at ht
        subst h3
        exact (show Tryd.prog.wantsStandIn 22 = false by kernel_rfl)⟩)
    (by kernel_rfl)
end Go.Proofs.YtaelapimchmbcaaDoor
