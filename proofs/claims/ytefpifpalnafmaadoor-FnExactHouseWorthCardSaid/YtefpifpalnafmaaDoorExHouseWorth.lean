/- For every house the exact law of HouseWorth answers true, and its arguments read as they did.
   Conditions: none. -/
import Derived.Test.YtefpifpalnafmaaDoorBill2
import Derived.Test.YtefpifpalnafmaaDoorCards
import Derived.Test.YtefpifpalnafmaaDoorTie
import Derived.ChangeVars
import Derived.LaidLaws
import Derived.Lay
import Derived.SevenTiedAt
import Derived.JoinedAt
namespace Go.Proofs.YtefpifpalnafmaaDoor
open Go.RowKit Go.ChangeShapes Go.WideShapes Go.ChangeAt Go.Deep

set_option maxRecDepth 100000 in
set_option maxHeartbeats 8000000 in
theorem exactHouseWorth_any (A B C D : Option Addr) (a b c d : Nat) (h : Hse) (w : World) (hA : HseAt w A B C D h) (hl : HseLe 9223372036854775807 h) (hTP : PiecesAt w) :
    Calls Tryd.prog 5 #[hseV A a B b C c D d h] w fun e w' => e = .returned (.bool true) ∧ Below w.heap.size w w' := by
  have HA := hide hA
  have HL := hide hl
  clear hA hl
  have hba : Below w.heap.size w (w.alloc (.cells #[.slice A h.items.length a, .slice B h.prices.length b, .slice C h.stock.length c, .int .i64 h.cash, .slice D h.tables.length d] 26)) := by go_grown
  have hbx := heap_alloc_new w (.cells #[.slice A h.items.length a, .slice B h.prices.length b, .slice C h.stock.length c, .int .i64 h.cash, .slice D h.tables.length d] 26)
  obtain ⟨W, hW⟩ : ∃ W, w.alloc (.cells #[.slice A h.items.length a, .slice B h.prices.length b, .slice C h.stock.length c, .int .i64 h.cash, .slice D h.tables.length d] 26) = W := ⟨_, rfl⟩
  have HW := hide hW
  rw [hW] at hba hbx
  clear hW
  by_cases hz : szHse h < 0
  · go_enter Tryd.func5, Tryd.ntmps5
    go_upto_region 2 with fail
    rw [HW.out]
    obtain ⟨c0, c1, c2, c3, c4⟩ := five_cells hbx
    go_wp2_with fail
    refine (szHouse_any _ _ _ _ _ _ _ _ _ _ (HA.out.below hba) HL.out).mono ?_
    rintro e w1 ⟨rfl, hB1⟩
    have hb1 := next hba hB1
    go_wp2_with fail
    go_ret
    exact ⟨rfl, hb1⟩
  · have HL1 := hide (szHse_le hz)
    obtain ⟨v, HV⟩ : ∃ v, Hid (houseWorth h = v) := ⟨_, hide rfl⟩
    have hvv : (v != v) = false := by simp
    go_enter Tryd.func5, Tryd.ntmps5
    go_upto_region 2 with fail
    rw [HW.out]
    obtain ⟨c0, c1, c2, c3, c4⟩ := five_cells hbx
    go_wp2_with fail
    refine (szHouse_any _ _ _ _ _ _ _ _ _ _ (HA.out.below hba) HL.out).mono ?_
    rintro e w1 ⟨rfl, hB1⟩
    have hb1 := next hba hB1
    have hx1 := (hB1.block w.heap.size (heap_ltH hbx)).trans hbx
    clear c0 c1 c2 c3 c4 hbx hba hB1
    obtain ⟨c0, c1, c2, c3, c4⟩ := five_cells hx1
    go_wp2_with fail
    refine (toHouse_any _ _ _ _ _ _ _ _ _ _ (HA.out.below hb1) HL1.out).mono ?_
    rintro e w2 ⟨qA, qB, qC, qD, rfl, -, -, -, -, hO2, hB2⟩
    have hb2 := next hb1 hB2
    have hx2 := (hB2.block w.heap.size (heap_ltH hx1)).trans hx1
    clear c0 c1 c2 c3 c4 hx1 hB2 hb1
    obtain ⟨c0, c1, c2, c3, c4⟩ := five_cells hx2
    go_wp2_with fail
    refine (specHouseWorth_any _ _ _ _ _ _ _ _ _ _ hO2.at_ HL1.out).mono ?_
    rintro e w3 ⟨rfl, hB3⟩
    rw [HV.out]
    have hb3 := next hb2 hB3
    have hx3 := (hB3.block w.heap.size (heap_ltH hx2)).trans hx2
    clear c0 c1 c2 c3 c4 hx2 hB3 hb2 hO2
    obtain ⟨c0, c1, c2, c3, c4⟩ := five_cells hx3
    go_wp2_with fail
    refine (toHouse_any _ _ _ _ _ _ _ _ _ _ (HA.out.below hb3) HL1.out).mono ?_
    rintro e w4 ⟨gA, gB, gC, gD, rfl, -, -, -, -, hO4, hB4⟩
    have hb4 := next hb3 hB4
    have hx4 := (hB4.block w.heap.size (heap_ltH hx3)).trans hx3
    clear c0 c1 c2 c3 c4 hx3 hB4 hb3
    have hb5 := hb4.alloc hb4.size (.cells #[.slice (some ⟨gA, 0, none⟩) h.items.length h.items.length, .slice (some ⟨gB, 0, none⟩) h.prices.length h.prices.length, .slice (some ⟨gC, 0, none⟩) h.stock.length h.stock.length, .int .i64 h.cash, .slice (some ⟨gD, 0, none⟩) h.tables.length h.tables.length] 32)
    have hx5 := (heap_alloc_old w4 (.cells #[.slice (some ⟨gA, 0, none⟩) h.items.length h.items.length, .slice (some ⟨gB, 0, none⟩) h.prices.length h.prices.length, .slice (some ⟨gC, 0, none⟩) h.stock.length h.stock.length, .int .i64 h.cash, .slice (some ⟨gD, 0, none⟩) h.tables.length h.tables.length] 32) (heap_ltH hx4)).trans hx4
    have hy5 := heap_alloc_new w4 (.cells #[.slice (some ⟨gA, 0, none⟩) h.items.length h.items.length, .slice (some ⟨gB, 0, none⟩) h.prices.length h.prices.length, .slice (some ⟨gC, 0, none⟩) h.stock.length h.stock.length, .int .i64 h.cash, .slice (some ⟨gD, 0, none⟩) h.tables.length h.tables.length] 32)
    have hO5 := hO4.below (w' := w4.alloc (.cells #[.slice (some ⟨gA, 0, none⟩) h.items.length h.items.length, .slice (some ⟨gB, 0, none⟩) h.prices.length h.prices.length, .slice (some ⟨gC, 0, none⟩) h.stock.length h.stock.length, .int .i64 h.cash, .slice (some ⟨gD, 0, none⟩) h.tables.length h.tables.length] 32)) ((Below.refl _ _).alloc (Nat.le_refl _) _)
    clear hx4 hb4 hO4
    go_upto_region 7 with fail
    obtain ⟨w5, hw5⟩ : ∃ w5, w4.alloc (.cells #[.slice (some ⟨gA, 0, none⟩) h.items.length h.items.length, .slice (some ⟨gB, 0, none⟩) h.prices.length h.prices.length, .slice (some ⟨gC, 0, none⟩) h.stock.length h.stock.length, .int .i64 h.cash, .slice (some ⟨gD, 0, none⟩) h.tables.length h.tables.length] 32) = w5 := ⟨_, rfl⟩
    rw [hw5] at hb5 hx5 hy5 hO5 ⊢
    clear hw5
    obtain ⟨c0, c1, c2, c3, c4⟩ := five_cells hy5
    go_wp2_with fail
    refine (implHouseWorth_any _ _ _ _ _ _ _ _ _ _ hO5.at_ HL1.out (hTP.below hb5)).mono ?_
    rintro e w6 ⟨rfl, hB6⟩
    rw [HV.out]
    have hb6 := next hb5 hB6
    have hx6 := (hB6.block w.heap.size (heap_ltH hx5)).trans hx5
    have hy6 := (hB6.block w4.heap.size (heap_ltH hy5)).trans hy5
    have hO6 := hide (hO5.below hB6)
    clear c0 c1 c2 c3 c4 hx5 hy5 hO5 hB6 hb5
    have HC : Hid (∀ W, Below w6.heap.size w6 W → (W.cell? ⟨w.heap.size, 0, none⟩ = some (.slice A h.items.length a) ∧ W.cell? ⟨w.heap.size, 1, none⟩ = some (.slice B h.prices.length b) ∧ W.cell? ⟨w.heap.size, 2, none⟩ = some (.slice C h.stock.length c) ∧ W.cell? ⟨w.heap.size, 3, none⟩ = some (.int .i64 h.cash) ∧ W.cell? ⟨w.heap.size, 4, none⟩ = some (.slice D h.tables.length d)) ∧ (W.cell? ⟨w4.heap.size, 0, none⟩ = some (.slice (some ⟨gA, 0, none⟩) h.items.length h.items.length) ∧ W.cell? ⟨w4.heap.size, 1, none⟩ = some (.slice (some ⟨gB, 0, none⟩) h.prices.length h.prices.length) ∧ W.cell? ⟨w4.heap.size, 2, none⟩ = some (.slice (some ⟨gC, 0, none⟩) h.stock.length h.stock.length) ∧ W.cell? ⟨w4.heap.size, 3, none⟩ = some (.int .i64 h.cash) ∧ W.cell? ⟨w4.heap.size, 4, none⟩ = some (.slice (some ⟨gD, 0, none⟩) h.tables.length h.tables.length))) := hide (fun W hW => ⟨five_cells ((hW.block w.heap.size (heap_ltH hx6)).trans hx6), five_cells ((hW.block w4.heap.size (heap_ltH hy6)).trans hy6)⟩)
    have HTO := hide (toHouse_any A B C D a b c d h w6.drew (HA.out.below hb6.drew) HL1.out)
    clear hx6 hy6
    go_wp2_with fail
    go_region_held3 (fun W => (W.cell? ⟨w.heap.size, 0, none⟩ = some (.slice A h.items.length a) ∧ W.cell? ⟨w.heap.size, 1, none⟩ = some (.slice B h.prices.length b) ∧ W.cell? ⟨w.heap.size, 2, none⟩ = some (.slice C h.stock.length c) ∧ W.cell? ⟨w.heap.size, 3, none⟩ = some (.int .i64 h.cash) ∧ W.cell? ⟨w.heap.size, 4, none⟩ = some (.slice D h.tables.length d)) ∧ (W.cell? ⟨w4.heap.size, 0, none⟩ = some (.slice (some ⟨gA, 0, none⟩) h.items.length h.items.length) ∧ W.cell? ⟨w4.heap.size, 1, none⟩ = some (.slice (some ⟨gB, 0, none⟩) h.prices.length h.prices.length) ∧ W.cell? ⟨w4.heap.size, 2, none⟩ = some (.slice (some ⟨gC, 0, none⟩) h.stock.length h.stock.length) ∧ W.cell? ⟨w4.heap.size, 3, none⟩ = some (.int .i64 h.cash) ∧ W.cell? ⟨w4.heap.size, 4, none⟩ = some (.slice (some ⟨gD, 0, none⟩) h.tables.length h.tables.length)))
      (first | exact HC.out _ (Below.refl _ _).drew | exact HC.out _ ((Below.refl _ _).drew.trans (hB7.mono (by simp))) | exact HC.out _ (((Below.refl _ _).drew.trans (hB7.mono (by simp))).trans (hB8.mono (by have := hB7.size; simpa using this))))
      (first
        | (go_at_call 9; refine HTO.out.mono ?_; rintro e W7 ⟨kA, kB, kC, kD, rfl, -, -, -, -, hO7, hB7⟩)
        | (go_at_call 11; refine (eqHouse_same _ _ _ _ _ _ _ _ _ _ _ _ _ _ _ _ h _ (hO6.out.below ((Below.refl _ _).drew.trans (hB7.mono (by simp)))).at_ hO7.at_ HL1.out).mono ?_; rintro e W8 ⟨rfl, hB8⟩))
    all_goals
      have hb8 := next (next hb6.drew hB7) hB8
      go_wp2_with fail
      go_ret
      exact ⟨rfl, hb8⟩

def laidHouseWorth : List (String × DataW Unit) := [("loop.example/restaurantkitchen/impl.piecesLeft", Rows.laid_loop_example_restaurantkitchen_impl_piecesLeft)]
noncomputable abbrev startHouseWorth (os : Os) : World := (World.laidAll Tryd.prog os laidHouseWorth).forCall (fun _ _ => 0) ⟨#[], #[.agg #[.slice none 0 0, .slice none 0 0, .slice none 0 0, .int .i64 0, .slice none 0 0]], []⟩
set_option maxRecDepth 100000 in
theorem startHouseWorth_shaped (os : Os) : (startHouseWorth os).Shaped Tryd.prog := World.shaped_of_ZipB (by kernel_rfl) (by kernel_rfl)
set_option maxRecDepth 100000 in
theorem startHouseWorth_met (os : Os) : laidMet Tryd.prog laidHouseWorth (startHouseWorth os).memory := laidMet_laidAll _ (by kernel_rfl) (by kernel_rfl)

set_option maxRecDepth 100000 in
theorem exactHouseWorth_contract (H : Type) (enc : TypeId × Value → H) (W : World) (base : Nat) (args : Array Value) (ds gs : List (DataW H)) (before : List MemPlace)
    (hval : ∀ (j : Nat) t v, Tryd.f5.params[j]? = some t → args[j]? = some v → Value.okWide Tryd.prog W .any base t v)
    (hW : DataW.Whole enc Tryd.prog Tryd.f5.params.toList Rows.fnExactHouseWorthSpec.vars false W args.toList ds gs before) (hL : laidMet Tryd.prog laidHouseWorth W) :
    Calls Tryd.prog 5 args W fun e W' => ∃ v, e = .returned v ∧ Rows.fnExactHouseWorthSpec.post enc Tryd.prog Tryd.f5 false true false false W args v W' := by
  have hTP : PiecesAt W := piecesAt_of hL (by simp [laidHouseWorth])
  have hW' := hW
  obtain ⟨p, q, hA, hV, rfl, _, _⟩ := hW
  obtain ⟨z0, rfl⟩ := len1 (trodVars_len hV)
  rw [Tryd.params5] at hA
  obtain ⟨v0, vs0, d0, ds0, p0, q0, hargs, rfl, rfl, h0, r0⟩ := trodAll_cons hA
  obtain ⟨rfl, rfl, rfl⟩ := trodAll_nil r0
  obtain rfl : args = #[v0] := by cases args; simp_all
  obtain ⟨A0, a0, B0, b0, C0, c0, D0, e0, h, rfl, hI0, hl0⟩ := open_house (hval 0 26 v0 rfl rfl) h0
  refine (exactHouseWorth_any _ _ _ _ _ _ _ _ _ W hI0 hl0 hTP).mono fun e W' ⟨he, hb⟩ => ?_
  subst he
  have hts : ∀ t ∈ Tryd.f5.params.toList, Tryd.prog.readableRec t = true ∧ t < Tryd.prog.types.size := by
    rw [Tryd.params5]
    intro t ht
    simp only [List.mem_cons, List.not_mem_nil, or_false] at ht
    rcases ht with rfl <;> exact ⟨by kernel_rfl, of_decide_eq_true (by kernel_rfl)⟩
  have hgv : ∀ n ∈ Rows.fnExactHouseWorthSpec.vars, ∀ g t, Tryd.prog.globalNamed n = some g → (Tryd.prog.globals[g]?).map (·.type) = some t → Tryd.prog.readableRec t = true ∧ t < Tryd.prog.types.size := by
    intro n hn
    simp only [Rows.fnExactHouseWorthSpec, List.mem_cons, List.not_mem_nil, or_false] at hn
    rcases hn with rfl
    exact glob_pieces
  exact ⟨_, rfl, post_trueV hW' rfl Tryd.underlying4 hts hgv rfl rfl rfl hb⟩

set_option maxRecDepth 100000 in
theorem exactHouseWorth_holds : Rows.FnExactHouseWorthSaid :=
  OpenClaim.holds_of_wide 5 Tryd.f5 rfl rfl rfl rfl rfl rfl rfl ⟨rfl, rfl, rfl, rfl, rfl⟩ rfl rfl rfl rfl rfl (by kernel_rfl) Tryd.func5 (by kernel_rfl)
    (of_decide_eq_true (by kernel_rfl)) (by unfold Func.isWrapper; first | (rw [if_pos (by decide +kernel)]; kernel_rfl) | (rw [if_neg (by decide +kernel)]; exact ⟨rfl, rfl⟩))
    (fun os started H enc _ => returnsInHanded_of_change_and (C := Tryd.checked) (X := fun w _ => laidMet Tryd.prog laidHouseWorth w) (fun _ _ _ hh h => h.of_heap hh) own started (by kernel_rfl) Tryd.func5
      (ChangeSpec.witness_shaped (enc := enc) (C := Tryd.checked) (os := os) (X := fun w _ => laidMet Tryd.prog laidHouseWorth w) false (World.laidAll Tryd.prog os laidHouseWorth) #[.agg #[.slice none 0 0, .slice none 0 0, .slice none 0 0, .int .i64 0, .slice none 0 0]] 8 (World.laidAll_os _ _ _) (startHouseWorth_shaped os) (by kernel_rfl) (by kernel_rfl) (by kernel_rfl) (startHouseWorth_met os))
      (fun W base args ds gs before hval hW _ _ hL _ => exactHouseWorth_contract H enc W base args ds gs before hval hW hL))

set_option maxRecDepth 100000 in
theorem exactHouseWorth_card : Rows.FnExactHouseWorthCardSaid :=
  Claim7.holds_tied_plain_at .later [] [.data] true (true, "734e23a8e3c45be4aa0c0e6a2ae0908cc80eca6ed432b319575eded03a0cbdc4") false
    exactHouseWorth_holds (fun _ h => by cases h) (by kernel_rfl) (fun _ h => by cases h) fnExactHouseWorth_row_tie rfl ⟨rfl, rfl⟩ (by kernel_rfl) rfl
    (fun f fn hf hfn => by
      obtain rfl : f = 5 := Option.some.inj ((show Tryd.prog.funcNamed "loop.example/restaurantkitchen/laws.FnExactHouseWorth" = some 5 by kernel_rfl).symm.trans hf) |>.symm
      obtain rfl : fn = Tryd.f5 := (Option.some.inj (Tryd.func5.symm.trans hfn)).symm
      exact ⟨by kernel_rfl, fun j t ht => by
        rw [Tryd.params5] at ht
        have h3 : t = 26 := by
          rcases j with _ | j
          · simpa using ht.symm
          · simp at ht
        rcases h3 with rfl
        · exact (show Tryd.prog.wantsStandIn 26 = false by kernel_rfl)⟩)
    (by kernel_rfl)
end Go.Proofs.YtefpifpalnafmaaDoor
