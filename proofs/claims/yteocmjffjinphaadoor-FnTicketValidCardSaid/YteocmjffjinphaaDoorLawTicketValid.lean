/- The law of TicketValid holds for all drawn bytes; the card: the listed tables are tied to the program's text.
   Conditions: none. -/
import Derived.Test.YteocmjffjinphaaDoorWalkTicketValid
import Derived.Test.YteocmjffjinphaaDoorLawStart
import Derived.Test.YteocmjffjinphaaDoorLawMain
namespace Go.Proofs.YteocmjffjinphaaDoor
open Go.RowKit Go.ChangeShapes Go.WideShapes Go.ChangeAt Go.Deep

def laidTicketValid : List (String × DataW Unit) := laid3 ++ [("loop.example/restaurantkitchen/impl.piecesLeft", Rows.laid_loop_example_restaurantkitchen_impl_piecesLeft)]
noncomputable abbrev startTicketValid (os : Os) : World := (World.laidAll Tryd.prog os laidTicketValid).forCall (fun _ _ => 0) ⟨#[], #[.slice none 0 0], []⟩
set_option maxRecDepth 100000 in
theorem startTicketValid_shaped (os : Os) : (startTicketValid os).Shaped Tryd.prog := World.shaped_of_ZipB (by kernel_rfl) (by kernel_rfl)
set_option maxRecDepth 100000 in
theorem startTicketValid_met (os : Os) : laidMet Tryd.prog laidTicketValid (startTicketValid os).memory := laidMet_laidAll _ (by kernel_rfl) (by kernel_rfl)
set_option maxRecDepth 100000 in
theorem lawTicketValid_contract (H : Type) (enc : TypeId × Value → H) (W : World) (base : Nat) (args : Array Value) (ds gs : List (DataW H)) (before : List MemPlace)
    (hval : ∀ (j : Nat) t v, Tryd.f15.params[j]? = some t → args[j]? = some v → Value.okWide Tryd.prog W .any base t v)
    (hW : DataW.Whole enc Tryd.prog Tryd.f15.params.toList Rows.fnTicketValidSpec.vars false W args.toList ds gs before) (hL : laidMet Tryd.prog laidTicketValid W) :
    Calls Tryd.prog 15 args W fun e W' => ∃ v, e = .returned v ∧ Rows.fnTicketValidSpec.post enc Tryd.prog Tryd.f15 false true false false W args v W' := by
  have hTP : PiecesAt W := piecesAt_of hL (by simp [laidTicketValid])
  have hW' := hW
  obtain ⟨p, q, hA, hV, rfl, _, _⟩ := hW'
  obtain ⟨z0, rfl⟩ := len1 (trodVars_len hV)
  rw [Tryd.params15] at hA
  obtain ⟨v0, vs0, d0, ds0, p0, q0, hargs, rfl, rfl, h0, r0⟩ := trodAll_cons hA
  obtain ⟨rfl, rfl, rfl⟩ := trodAll_nil r0
  obtain rfl : args = #[v0] := by cases args; simp_all
  obtain ⟨a0, len0, cap0, rfl⟩ := okWide_slice Tryd.underlying22 (hval 0 22 v0 (by rw [Tryd.params15]; rfl) rfl)
  obtain ⟨fuel0, hf0⟩ := h0
  obtain ⟨A0, c0, m0, hcs0, hB0, hc0, hc1⟩ := open_bytes hf0
  simp [Value.cells] at hcs0
  obtain ⟨rfl, rfl, rfl⟩ := hcs0
  refine (lawTicketValid_any _ _ _ W hB0 hc0 hc1 hTP).mono fun e W' ⟨he, hb⟩ => ?_
  subst he
  have hts : ∀ t ∈ Tryd.f15.params.toList, Tryd.prog.readableRec t = true ∧ t < Tryd.prog.types.size := by
    rw [Tryd.params15]
    intro t ht
    simp only [List.mem_cons, List.not_mem_nil, or_false] at ht
    rcases ht with rfl
    exact ⟨by kernel_rfl, of_decide_eq_true (by kernel_rfl)⟩
  have hgv : ∀ n ∈ Rows.fnTicketValidSpec.vars, ∀ g t, Tryd.prog.globalNamed n = some g → (Tryd.prog.globals[g]?).map (·.type) = some t → Tryd.prog.readableRec t = true ∧ t < Tryd.prog.types.size := by
    intro n hn
    simp only [Rows.fnTicketValidSpec, List.mem_cons, List.not_mem_nil, or_false] at hn
    rcases hn with rfl
    exact glob_pieces
  exact ⟨_, rfl, post_trueV hW rfl Tryd.underlying4 hts hgv rfl rfl rfl hb⟩

set_option maxRecDepth 100000 in
theorem lawTicketValid_closed : joinedFacts Tryd.prog 15 Tryd.f15 Rows.fnTicketValidSpec Rows.fnTicketValidRow = true := by
  unfold joinedFacts
  rw [enters_is, lifts_is, make_is]
  kernel_rfl

set_option maxRecDepth 100000 in
theorem lawTicketValid_holds : Rows.FnTicketValidSaid :=
  OpenClaim.holds_of_wide 15 Tryd.f15 rfl rfl rfl rfl rfl rfl rfl ⟨rfl, rfl, rfl, rfl, rfl⟩ rfl rfl rfl rfl rfl (by kernel_rfl) Tryd.func15 lawTicketValid_closed
    (of_decide_eq_true (by kernel_rfl)) (by unfold Func.isWrapper; first | (rw [if_pos (by decide +kernel)]; kernel_rfl) | (rw [if_neg (by decide +kernel)]; exact ⟨rfl, rfl⟩))
    (fun os started H enc _ => returnsInHanded_of_change_and (C := Tryd.checked) (X := fun w _ => laidMet Tryd.prog laidTicketValid w) (fun _ _ _ hh h => h.of_heap hh) own started (by kernel_rfl) Tryd.func15
      (ChangeSpec.witness_shaped (enc := enc) (C := Tryd.checked) (os := os) (X := fun w _ => laidMet Tryd.prog laidTicketValid w) false (World.laidAll Tryd.prog os laidTicketValid) #[.slice none 0 0] 8 (World.laidAll_os _ _ _) (startTicketValid_shaped os) (by kernel_rfl) (by kernel_rfl) (by kernel_rfl) (startTicketValid_met os))
      (fun W base args ds gs before hval hW _ _ hL _ => lawTicketValid_contract H enc W base args ds gs before hval hW hL))

set_option maxRecDepth 100000 in
theorem lawTicketValid_card : Rows.FnTicketValidCardSaid :=
  Claim7.holds_tied_plain_at .later [] [.data, .data, .data, .data] true (true, "d02cb4b1ffe36576fde6c6250e797d18cf5ee742241366fa1d1a0c3f94e0dacc") false
    lawTicketValid_holds (fun _ h => by cases h) (by kernel_rfl) (fun _ h => by cases h) fnTicketValid_row_tie rfl ⟨rfl, rfl⟩ main_is rfl
    (fun f fn hf hfn => by
      obtain rfl : f = 15 := Option.some.inj ((show Tryd.prog.funcNamed "loop.example/restaurantkitchen/laws.FnTicketValid" = some 15 by kernel_rfl).symm.trans hf) |>.symm
      obtain rfl : fn = Tryd.f15 := (Option.some.inj (Tryd.func15.symm.trans hfn)).symm
      exact ⟨by kernel_rfl, fun j t ht => by
        rw [Tryd.params15] at ht
        have h3 : t = 22 := by
          rcases j with _ | j
          · simpa using ht.symm
          · simp at ht
        subst h3
        exact (show Tryd.prog.wantsStandIn 22 = false by kernel_rfl)⟩)
    (by kernel_rfl)
end Go.Proofs.YteocmjffjinphaaDoor
