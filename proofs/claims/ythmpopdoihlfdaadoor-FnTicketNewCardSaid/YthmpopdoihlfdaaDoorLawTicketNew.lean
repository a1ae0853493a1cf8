/- The law of TicketNew holds for all drawn bytes; the card: the listed tables are tied to the program's text.
   Conditions: none. -/
import Derived.Test.YthmpopdoihlfdaaDoorWalkTicketNew
namespace Go.Proofs.YthmpopdoihlfdaaDoor
open Go.RowKit Go.ChangeShapes Go.WideShapes Go.ChangeAt Go.Deep

def laidTicketNew : List (String × DataW Unit) := laid3 ++ [("loop.example/restaurantkitchen/impl.piecesLeft", Rows.laid_loop_example_restaurantkitchen_impl_piecesLeft)]
noncomputable abbrev startTicketNew (os : Os) : World := (World.laidAll Tryd.prog os laidTicketNew).forCall (fun _ _ => 0) ⟨#[], #[.slice none 0 0], []⟩
set_option maxRecDepth 100000 in
theorem startTicketNew_shaped (os : Os) : (startTicketNew os).Shaped Tryd.prog := World.shaped_of_ZipB (by kernel_rfl) (by kernel_rfl)
set_option maxRecDepth 100000 in
theorem startTicketNew_met (os : Os) : laidMet Tryd.prog laidTicketNew (startTicketNew os).memory := laidMet_laidAll _ (by kernel_rfl) (by kernel_rfl)
set_option maxRecDepth 100000 in
theorem lawTicketNew_contract (H : Type) (enc : TypeId × Value → H) (W : World) (base : Nat) (args : Array Value) (ds gs : List (DataW H)) (before : List MemPlace)
    (hval : ∀ (j : Nat) t v, Tryd.f4.params[j]? = some t → args[j]? = some v → Value.okWide Tryd.prog W .any base t v)
    (hW : DataW.Whole enc Tryd.prog Tryd.f4.params.toList Rows.fnTicketNewSpec.vars false W args.toList ds gs before) (hL : laidMet Tryd.prog laidTicketNew W) :
    Calls Tryd.prog 4 args W fun e W' => ∃ v, e = .returned v ∧ Rows.fnTicketNewSpec.post enc Tryd.prog Tryd.f4 false true false false W args v W' := by
  have hTP : PiecesAt W := piecesAt_of hL (by simp [laidTicketNew])
  have hW' := hW
  obtain ⟨p, q, hA, hV, rfl, _, _⟩ := hW'
  obtain ⟨z0, rfl⟩ := len1 (trodVars_len hV)
  rw [Tryd.params4] at hA
  obtain ⟨v0, vs0, d0, ds0, p0, q0, hargs, rfl, rfl, h0, r0⟩ := trodAll_cons hA
  obtain ⟨rfl, rfl, rfl⟩ := trodAll_nil r0
  obtain rfl : args = #[v0] := by cases args; simp_all
  obtain ⟨a0, len0, cap0, rfl⟩ := okWide_slice Tryd.underlying22 (hval 0 22 v0 (by rw [Tryd.params4]; rfl) rfl)
  obtain ⟨fuel0, hf0⟩ := h0
  obtain ⟨A0, c0, m0, hcs0, hB0, hc0, hc1⟩ := open_bytes hf0
  simp [Value.cells] at hcs0
  obtain ⟨rfl, rfl, rfl⟩ := hcs0
  refine (lawTicketNew_any _ _ _ W hB0 hc0 hc1 hTP).mono fun e W' ⟨he, hb⟩ => ?_
  subst he
  have hts : ∀ t ∈ Tryd.f4.params.toList, Tryd.prog.readableRec t = true ∧ t < Tryd.prog.types.size := by
    rw [Tryd.params4]
    intro t ht
    simp only [List.mem_cons, List.not_mem_nil, or_false] at ht
    rcases ht with rfl
    exact ⟨by kernel_rfl, of_decide_eq_true (by kernel_rfl)⟩
  have hgv : ∀ n ∈ Rows.fnTicketNewSpec.vars, ∀ g t, Tryd.prog.globalNamed n = some g → (Tryd.prog.globals[g]?).map (·.type) = some t → Tryd.prog.readableRec t = true ∧ t < Tryd.prog.types.size := by
    intro n hn
    simp only [Rows.fnTicketNewSpec, List.mem_cons, List.not_mem_nil, or_false] at hn
    rcases hn with rfl
    exact glob_pieces
  exact ⟨_, rfl, post_trueV hW rfl Tryd.underlying4 hts hgv rfl rfl rfl hb⟩

set_option maxRecDepth 100000 in
theorem lawTicketNew_holds : Rows.FnTicketNewSaid :=
  OpenClaim.holds_of_wide 4 Tryd.f4 rfl rfl rfl rfl rfl rfl rfl ⟨rfl, rfl, rfl, rfl, rfl⟩ rfl rfl rfl rfl rfl (by kernel_rfl) Tryd.func4 (by kernel_rfl)
    (of_decide_eq_true (by kernel_rfl)) (by unfold Func.isWrapper; first | (rw [if_pos (by decide +kernel)]; kernel_rfl) | (rw [if_neg (by decide +kernel)]; exact ⟨rfl, rfl⟩))
    (fun os started H enc _ => returnsInHanded_of_change_and (C := Tryd.checked) (X := fun w _ => laidMet Tryd.prog laidTicketNew w) (fun _ _ _ hh h => h.of_heap hh) own started (by kernel_rfl) Tryd.func4
      (ChangeSpec.witness_shaped (enc := enc) (C := Tryd.checked) (os := os) (X := fun w _ => laidMet Tryd.prog laidTicketNew w) false (World.laidAll Tryd.prog os laidTicketNew) #[.slice none 0 0] 8 (World.laidAll_os _ _ _) (startTicketNew_shaped os) (by kernel_rfl) (by kernel_rfl) (by kernel_rfl) (startTicketNew_met os))
      (fun W base args ds gs before hval hW _ _ hL _ => lawTicketNew_contract H enc W base args ds gs before hval hW hL))

set_option maxRecDepth 100000 in
theorem lawTicketNew_card : Rows.FnTicketNewCardSaid :=
  Claim7.holds_tied_plain_at .later [] [.data, .data, .data, .data] true (true, "d0b91edf390a57af324656462d2c3fa5e38390951a50dc7a51f1e3d6450fc33a") false
    lawTicketNew_holds (fun _ h => by cases h) (by kernel_rfl) (fun _ h => by cases h) fnTicketNew_row_tie rfl ⟨rfl, rfl⟩ (by kernel_rfl) rfl
    (fun f fn hf hfn => by
      obtain rfl : f = 4 := Option.some.inj ((show Tryd.prog.funcNamed "loop.example/restaurantkitchen/laws.FnTicketNew" = some 4 by kernel_rfl).symm.trans hf) |>.symm
      obtain rfl : fn = Tryd.f4 := (Option.some.inj (Tryd.func4.symm.trans hfn)).symm
      exact ⟨by kernel_rfl, fun j t ht => by
        rw [Tryd.params4] at ht
        have h3 : t = 22 := by
          rcases j with _ | j
          · simpa using ht.symm
          · simp at ht
        subst h3
        exact (show Tryd.prog.wantsStandIn 22 = false by kernel_rfl)⟩)
    (by kernel_rfl)
end Go.Proofs.YthmpopdoihlfdaaDoor
