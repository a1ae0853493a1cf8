/- For every house the exact law of EndDeeds answers true, and its arguments read as they did.
   Conditions: none. -/
import Derived.Test.YtmepnilnlpoodaaDoorEndDeeds
import Derived.Test.YtmepnilnlpoodaaDoorMarkTbls
import Derived.Test.YtmepnilnlpoodaaDoorCards
import Derived.Test.YtmepnilnlpoodaaDoorTie
import Derived.ChangeVars
import Derived.LaidLaws
import Derived.Lay
import Derived.SevenTiedAt
import Derived.JoinedAt
namespace Go.Proofs.YtmepnilnlpoodaaDoor
open Go.RowKit Go.ChangeShapes Go.WideShapes Go.ChangeAt Go.Deep

set_option maxRecDepth 100000 in
set_option maxHeartbeats 8000000 in
theorem exactEndDeeds_any (A B C D : Option Addr) (a b c d : Nat) (h : Hse) (w : World) (hA : HseAt w A B C D h) (hl : HseLe 9223372036854775807 h) (hTP : PiecesAt w) :
    Calls Tryd.prog 3 #[hseV A a B b C c D d h] w fun e w' => e = .returned (.bool true) ∧ Below w.heap.size w w' := by
  have HA := hide hA
  have HL := hide hl
  clear hA hl
  have hba : Below w.heap.size w (w.alloc (.cells #[.slice A h.items.length a, .slice B h.prices.length b, .slice C h.stock.length c, .int .i64 h.cash, .slice D h.tables.length d] 26)) := by go_grown
  have hbx := heap_alloc_new w (.cells #[.slice A h.items.length a, .slice B h.prices.length b, .slice C h.stock.length c, .int .i64 h.cash, .slice D h.tables.length d] 26)
  obtain ⟨W, hW⟩ : ∃ W, w.alloc (.cells #[.slice A h.items.length a, .slice B h.prices.length b, .slice C h.stock.length c, .int .i64 h.cash, .slice D h.tables.length d] 26) = W := ⟨_, rfl⟩
  have HW := hide hW
  rw [hW] at hba hbx
  clear hW
  by_cases hz : szHse h < 0
  · go_enter Tryd.func3, Tryd.ntmps3
    go_upto_region 2 with fail
    rw [HW.out]
    obtain ⟨c0, c1, c2, c3, c4⟩ := five_cells hbx
    go_wp2_with fail
    refine (szHouse_any _ _ _ _ _ _ _ _ _ _ (HA.out.below hba) HL.out).mono ?_
    rintro e w1 ⟨rfl, hB1⟩
    have hb1 := next hba hB1
    go_wp2_with fail
    go_ret
    exact ⟨rfl, hb1⟩
  · have HL1 := hide (szHse_le hz)
    obtain ⟨ls, HV⟩ : ∃ ls, Hid (endDeedsL h = ls) := ⟨_, hide rfl⟩
    have hn0 := endDeeds_len h
    rw [HV.out] at hn0
    have hn : ls.length ≤ 1048576 := by omega
    have HN0 := hide hn0
    have hne : (1 + 4 * (ls.length : Int) != 1 + 4 * (ls.length : Int)) = false := by simp
    clear hn0
    go_enter Tryd.func3, Tryd.ntmps3
    go_upto_region 2 with fail
    rw [HW.out]
    obtain ⟨c0, c1, c2, c3, c4⟩ := five_cells hbx
    go_wp2_with fail
    refine (szHouse_any _ _ _ _ _ _ _ _ _ _ (HA.out.below hba) HL.out).mono ?_
    rintro e w1 ⟨rfl, hB1⟩
    have hb1 := next hba hB1
    have hx1 := (hB1.block w.heap.size (heap_ltH hbx)).trans hbx
    clear c0 c1 c2 c3 c4 hbx hba hB1
    obtain ⟨c0, c1, c2, c3, c4⟩ := five_cells hx1
    go_wp2_with fail
    refine (toHouse_any _ _ _ _ _ _ _ _ _ _ (HA.out.below hb1) HL1.out).mono ?_
    rintro e w2 ⟨qA, qB, qC, qD, rfl, -, -, -, -, hO2, hB2⟩
    have hb2 := next hb1 hB2
    have hx2 := (hB2.block w.heap.size (heap_ltH hx1)).trans hx1
    clear c0 c1 c2 c3 c4 hx1 hB2 hb1
    obtain ⟨c0, c1, c2, c3, c4⟩ := five_cells hx2
    go_wp2_with fail
    refine (specEndDeeds_any _ _ _ _ _ _ _ _ _ _ hO2.at_ HL1.out).mono ?_
    rintro e w3 ⟨v0, rfl, hS0, hB3⟩
    rw [HV.out] at hS0
    obtain ⟨A0, c0', rfl, -⟩ := hS0.form
    have HL0 := hide (World.ownsRow.lt hS0)
    have HS0 := hide hS0
    clear hS0
    have hb3 := next hb2 hB3
    have hx3 := (hB3.block w.heap.size (heap_ltH hx2)).trans hx2
    clear c0 c1 c2 c3 c4 hx2 hB3 hb2 hO2
    obtain ⟨c0, c1, c2, c3, c4⟩ := five_cells hx3
    go_wp2_with fail
    refine (toHouse_any _ _ _ _ _ _ _ _ _ _ (HA.out.below hb3) HL1.out).mono ?_
    rintro e w4 ⟨gA, gB, gC, gD, rfl, hgA, hgB, hgC, hgD, hO4, hB4⟩
    have HIN4 := hide (hO4.toIn (lo := w3.heap.size) (by omega) (by omega) (by omega) (by omega))
    have HS0_4 := hide (HS0.out.below hB4)
    have hs34 := hB4.size
    have hws := heap_ltH hx3
    have hb4 := next hb3 hB4
    clear hgA hgB hgC hgD
    have hx4 := (hB4.block w.heap.size (heap_ltH hx3)).trans hx3
    clear c0 c1 c2 c3 c4 hx3 hB4 hb3
    have hb5 := hb4.alloc hb4.size (.cells #[.slice (some ⟨gA, 0, none⟩) h.items.length h.items.length, .slice (some ⟨gB, 0, none⟩) h.prices.length h.prices.length, .slice (some ⟨gC, 0, none⟩) h.stock.length h.stock.length, .int .i64 h.cash, .slice (some ⟨gD, 0, none⟩) h.tables.length h.tables.length] 33)
    have hx5 := (heap_alloc_old w4 (.cells #[.slice (some ⟨gA, 0, none⟩) h.items.length h.items.length, .slice (some ⟨gB, 0, none⟩) h.prices.length h.prices.length, .slice (some ⟨gC, 0, none⟩) h.stock.length h.stock.length, .int .i64 h.cash, .slice (some ⟨gD, 0, none⟩) h.tables.length h.tables.length] 33) (heap_ltH hx4)).trans hx4
    have hy5 := heap_alloc_new w4 (.cells #[.slice (some ⟨gA, 0, none⟩) h.items.length h.items.length, .slice (some ⟨gB, 0, none⟩) h.prices.length h.prices.length, .slice (some ⟨gC, 0, none⟩) h.stock.length h.stock.length, .int .i64 h.cash, .slice (some ⟨gD, 0, none⟩) h.tables.length h.tables.length] 33)
    have hO5 := hO4.below (w' := w4.alloc (.cells #[.slice (some ⟨gA, 0, none⟩) h.items.length h.items.length, .slice (some ⟨gB, 0, none⟩) h.prices.length h.prices.length, .slice (some ⟨gC, 0, none⟩) h.stock.length h.stock.length, .int .i64 h.cash, .slice (some ⟨gD, 0, none⟩) h.tables.length h.tables.length] 33)) ((Below.refl _ _).alloc (Nat.le_refl _) _)
    clear hx4 hb4 hO4
    go_upto_region 7 with fail
    obtain ⟨w5, hw5⟩ : ∃ w5, w4.alloc (.cells #[.slice (some ⟨gA, 0, none⟩) h.items.length h.items.length, .slice (some ⟨gB, 0, none⟩) h.prices.length h.prices.length, .slice (some ⟨gC, 0, none⟩) h.stock.length h.stock.length, .int .i64 h.cash, .slice (some ⟨gD, 0, none⟩) h.tables.length h.tables.length] 33) = w5 := ⟨_, rfl⟩
    have hal : Below w4.heap.size w4 w5 := by rw [← hw5]; exact (Below.refl _ _).alloc (Nat.le_refl _) _
    rw [hw5] at hb5 hx5 hy5 hO5 ⊢
    have HIN5 := hide (HIN4.out.below hal)
    have HS0_5 := hide (HS0_4.out.below hal)
    have hs45 := hal.size
    clear hw5 hal HIN4 HS0_4
    obtain ⟨c0, c1, c2, c3, c4⟩ := five_cells hy5
    go_wp2_with fail
    refine (implEndDeeds_any _ _ _ _ _ _ _ _ _ _ hO5.at_ HL1.out (hTP.below hb5)).mono ?_
    rintro e w6 ⟨v1, rfl, hS1, hB6⟩
    rw [HV.out] at hS1
    obtain ⟨A1, c1', rfl, -⟩ := hS1.form
    have HL1' := hide (World.ownsRow.lt hS1)
    have HS1_6 := hide hS1
    have HS0_6 := hide (HS0_5.out.below hB6)
    have HIN6 := hide (HIN5.out.below hB6)
    have hs56 := hB6.size
    have hb6 := next hb5 hB6
    clear hS1 HIN5 HS0_5
    have hx6 := (hB6.block w.heap.size (heap_ltH hx5)).trans hx5
    have hy6 := (hB6.block w4.heap.size (heap_ltH hy5)).trans hy5
    have hO6 := hide (hO5.below hB6)
    clear hx5 hy5 hO5 hB6 hb5
    clear c0 c1 c2 c3 c4
    go_wp2_with fail
    refine (eqHouseDeedS_same _ _ _ _ _ _ HS1_6.out.deeds HS0_6.out.deeds hn).mono ?_
    rintro e w7 ⟨rfl, hB7⟩
    have hb7 := next hb6 hB7
    have hx7 := (hB7.block w.heap.size (heap_ltH hx6)).trans hx6
    have hy7 := (hB7.block w4.heap.size (heap_ltH hy6)).trans hy6
    have hO7 := hide (hO6.out.below hB7)
    have HS1_7 := hide (HS1_6.out.below hB7)
    have HS0_7 := hide (HS0_6.out.below hB7)
    have HIN7 := hide (HIN6.out.below hB7)
    have hs67 := hB7.size
    have HXY := hide (And.intro hx7 hy7)
    clear hx6 hy6 hO6 HS1_6 HS0_6 HIN6 hb6 hB7
    have HC : Hid (∀ W, Below w7.heap.size w7 W → (W.cell? ⟨w.heap.size, 0, none⟩ = some (.slice A h.items.length a) ∧ W.cell? ⟨w.heap.size, 1, none⟩ = some (.slice B h.prices.length b) ∧ W.cell? ⟨w.heap.size, 2, none⟩ = some (.slice C h.stock.length c) ∧ W.cell? ⟨w.heap.size, 3, none⟩ = some (.int .i64 h.cash) ∧ W.cell? ⟨w.heap.size, 4, none⟩ = some (.slice D h.tables.length d)) ∧ (W.cell? ⟨w4.heap.size, 0, none⟩ = some (.slice (some ⟨gA, 0, none⟩) h.items.length h.items.length) ∧ W.cell? ⟨w4.heap.size, 1, none⟩ = some (.slice (some ⟨gB, 0, none⟩) h.prices.length h.prices.length) ∧ W.cell? ⟨w4.heap.size, 2, none⟩ = some (.slice (some ⟨gC, 0, none⟩) h.stock.length h.stock.length) ∧ W.cell? ⟨w4.heap.size, 3, none⟩ = some (.int .i64 h.cash) ∧ W.cell? ⟨w4.heap.size, 4, none⟩ = some (.slice (some ⟨gD, 0, none⟩) h.tables.length h.tables.length))) := hide (fun W hW => ⟨five_cells ((hW.block w.heap.size (heap_ltH hx7)).trans hx7), five_cells ((hW.block w4.heap.size (heap_ltH hy7)).trans hy7)⟩)
    have HTO := hide (toHouse_any A B C D a b c d h w7.drew (HA.out.below hb7.drew) HL1.out)
    clear hx7 hy7
    go_wp2_with fail
    go_region_held3 (fun W => (W.cell? ⟨w.heap.size, 0, none⟩ = some (.slice A h.items.length a) ∧ W.cell? ⟨w.heap.size, 1, none⟩ = some (.slice B h.prices.length b) ∧ W.cell? ⟨w.heap.size, 2, none⟩ = some (.slice C h.stock.length c) ∧ W.cell? ⟨w.heap.size, 3, none⟩ = some (.int .i64 h.cash) ∧ W.cell? ⟨w.heap.size, 4, none⟩ = some (.slice D h.tables.length d)) ∧ (W.cell? ⟨w4.heap.size, 0, none⟩ = some (.slice (some ⟨gA, 0, none⟩) h.items.length h.items.length) ∧ W.cell? ⟨w4.heap.size, 1, none⟩ = some (.slice (some ⟨gB, 0, none⟩) h.prices.length h.prices.length) ∧ W.cell? ⟨w4.heap.size, 2, none⟩ = some (.slice (some ⟨gC, 0, none⟩) h.stock.length h.stock.length) ∧ W.cell? ⟨w4.heap.size, 3, none⟩ = some (.int .i64 h.cash) ∧ W.cell? ⟨w4.heap.size, 4, none⟩ = some (.slice (some ⟨gD, 0, none⟩) h.tables.length h.tables.length)))
      (first | exact HC.out _ (Below.refl _ _).drew | exact HC.out _ ((Below.refl _ _).drew.trans (hBa.mono (by simp))) | exact HC.out _ (((Below.refl _ _).drew.trans (hBa.mono (by simp))).trans (hBb.mono (by have := hBa.size; simpa using this))))
      (first
        | (go_at_call 10; refine HTO.out.mono ?_; rintro e Wa ⟨kA, kB, kC, kD, rfl, -, -, -, -, hOa, hBa⟩)
        | (go_at_call 13; refine (eqHouse_same _ _ _ _ _ _ _ _ _ _ _ _ _ _ _ _ h _ (hO7.out.below ((Below.refl _ _).drew.trans (hBa.mono (by simp)))).at_ hOa.at_ HL1.out).mono ?_; rintro e Wb ⟨rfl, hBb⟩))
    all_goals
      have hB79 := next (next (Below.refl w7.heap.size w7).drew hBa) hBb
      have hb9 := next hb7 hB79
      have HX9 := hide ((hB79.block w.heap.size (heap_ltH HXY.out.1)).trans HXY.out.1)
      have hy9 := (hB79.block w4.heap.size (heap_ltH HXY.out.2)).trans HXY.out.2
      have HS1_9 := hide (HS1_7.out.below hB79)
      have HS0_9 := hide (HS0_7.out.below hB79)
      have HIN9 := hide (HIN7.out.below hB79)
      have hs79 := hB79.size
      clear hB79 HS1_7 HS0_7 HIN7 hOa hBa hBb HC HTO
      obtain ⟨c0, c1, c2, c3, c4⟩ := five_cells hy9
      clear hy9
      go_wp2_with fail
      refine (markHouse_in _ _ _ _ _ _ _ _ HIN9.out (by omega) HL1.out).mono ?_
      rintro e w10 ⟨r, rfl, hr, hW10⟩
      have hb10 : Below w.heap.size w w10 := hb9.trans (hW10.below (by omega) (by omega))
      have HX10 := hide ((hW10.block w.heap.size (heap_ltH HX9.out) (.inl hws)).trans HX9.out)
      have HS0_10 := hide (hW10.row HS0_9.out (fun k hk => .inl (HL0.out k hk).2))
      have HS1_10 := hide (hW10.row HS1_9.out (fun k hk => .inr (by have := (HL1'.out k hk).1; omega)))
      clear c0 c1 c2 c3 c4 HX9 HS0_9 HS1_9 HIN9 hW10
      go_wp2_with fail
      refine (eqHouseDeedS_same _ _ _ _ _ _ (HDeedSl.deeds HS1_10.out) (HDeedSl.deeds HS0_10.out) hn).mono ?_
      rintro e w11 ⟨rfl, hB11⟩
      have hb11 := next hb10 hB11
      have HX11 := hide ((hB11.block w.heap.size (heap_ltH HX10.out)).trans HX10.out)
      have HS0_11 := hide (HDeedSl.below HS0_10.out hB11)
      have HS1_11 := hide (HDeedSl.below HS1_10.out hB11)
      have hs11 := hB11.size
      clear HX10 HS0_10 HS1_10 hB11
      go_wp2_with fail
      refine (markHouseDeedS_any _ _ _ _ _ _ HS1_11.out hn (by omega) (by omega)).mono ?_
      rintro e w12 ⟨rfl, hS1, hg12⟩
      have hb12 : Below w.heap.size w w12 := hb11.grown hg12 (by have := hb11.size; omega) (fun k hk => by have := (HL1'.out k hk).1; omega)
      have HX12 := hide ((hg12.block w.heap.size (heap_ltH HX11.out) (fun e => by have := (HL1'.out _ e.symm).1; omega)).trans HX11.out)
      have HS0_12 := hide (HDeedSl.row HS0_11.out hg12 (by
        cases e0 : (Value.slice A0 ls.length c0').ownBlock with
        | none => exact .inl rfl
        | some k => exact .inr (fun e1 => by have a := (HL0.out k e0).2; have b := (HL1'.out k e1.symm).1; omega)))
      have HH12 := hide (by have := hS1; rw [show (Value.slice A1 ls.length c1') = Value.slice A1 ls.length c1' from rfl] at this; exact HDeedSl.deeds this)
      clear hS1 hg12 HX11 HS0_11 HS1_11
      go_wp2_with fail
      refine (heldHouseDeedS_any _ _ _ _ _ HH12.out hn (by omega) (by omega)).mono ?_
      rintro e w13 ⟨rfl, hw13⟩
      subst hw13
      obtain ⟨c0, c1, c2, c3, c4⟩ := five_cells HX12.out
      go_wp2_with fail
      refine (toHouse_any _ _ _ _ _ _ _ _ _ _ (HA.out.below hb12) HL1.out).mono ?_
      rintro e w14 ⟨jA, jB, jC, jD, rfl, -, -, -, -, hO14, hB14⟩
      have hb14 := next hb12 hB14
      have HS0_14 := hide (HDeedSl.below HS0_12.out hB14)
      have HH14 := hide (HH12.out.below hB14)
      clear HS0_12 HH12 hB14 c0 c1 c2 c3 c4 HX12
      go_wp2_with fail
      refine (implEndDeeds_any _ _ _ _ _ _ _ _ _ _ hO14.at_ HL1.out (hTP.below hb14)).mono ?_
      rintro e w15 ⟨v2, rfl, hS2, hB15⟩
      rw [HV.out] at hS2
      obtain ⟨A2, c2', rfl, -⟩ := hS2.form
      have hb15 := next hb14 hB15
      have HS0_15 := hide (HDeedSl.below HS0_14.out hB15)
      have HH15 := hide (HH14.out.below hB15)
      clear HS0_14 HH14 hB15 hO14
      go_wp2_with fail
      refine (eqHouseDeedS_same _ _ _ _ _ _ (HDeedSl.deeds hS2) (HDeedSl.deeds HS0_15.out) hn).mono ?_
      rintro e w16 ⟨rfl, hB16⟩
      have hb16 := next hb15 hB16
      have HH16 := hide (HH15.out.below hB16)
      clear HS0_15 HH15 hB16 hS2
      go_wp2_with fail
      refine (heldHouseDeedS_any _ _ _ _ _ HH16.out hn (by omega) (by omega)).mono ?_
      rintro e w17 ⟨rfl, hw17⟩
      subst hw17
      go_wp2_with fail
      go_ret
      exact ⟨rfl, hb16⟩

def laidEndDeeds : List (String × DataW Unit) := [("loop.example/restaurantkitchen/impl.piecesLeft", Rows.laid_loop_example_restaurantkitchen_impl_piecesLeft)]
noncomputable abbrev startEndDeeds (os : Os) : World := (World.laidAll Tryd.prog os laidEndDeeds).forCall (fun _ _ => 0) ⟨#[], #[.agg #[.slice none 0 0, .slice none 0 0, .slice none 0 0, .int .i64 0, .slice none 0 0]], []⟩
set_option maxRecDepth 100000 in
theorem startEndDeeds_shaped (os : Os) : (startEndDeeds os).Shaped Tryd.prog := World.shaped_of_ZipB (by kernel_rfl) (by kernel_rfl)
set_option maxRecDepth 100000 in
theorem startEndDeeds_met (os : Os) : laidMet Tryd.prog laidEndDeeds (startEndDeeds os).memory := laidMet_laidAll _ (by kernel_rfl) (by kernel_rfl)

set_option maxRecDepth 100000 in
theorem exactEndDeeds_contract (H : Type) (enc : TypeId × Value → H) (W : World) (base : Nat) (args : Array Value) (ds gs : List (DataW H)) (before : List MemPlace)
    (hval : ∀ (j : Nat) t v, Tryd.f3.params[j]? = some t → args[j]? = some v → Value.okWide Tryd.prog W .any base t v)
    (hW : DataW.Whole enc Tryd.prog Tryd.f3.params.toList Rows.fnExactEndDeedsSpec.vars false W args.toList ds gs before) (hL : laidMet Tryd.prog laidEndDeeds W) :
    Calls Tryd.prog 3 args W fun e W' => ∃ v, e = .returned v ∧ Rows.fnExactEndDeedsSpec.post enc Tryd.prog Tryd.f3 false true false false W args v W' := by
  have hTP : PiecesAt W := piecesAt_of hL (by simp [laidEndDeeds])
  have hW' := hW
  obtain ⟨p, q, hA, hV, rfl, _, _⟩ := hW
  obtain ⟨z0, rfl⟩ := len1 (trodVars_len hV)
  rw [Tryd.params3] at hA
  obtain ⟨v0, vs0, d0, ds0, p0, q0, hargs, rfl, rfl, h0, r0⟩ := trodAll_cons hA
  obtain ⟨rfl, rfl, rfl⟩ := trodAll_nil r0
  obtain rfl : args = #[v0] := by cases args; simp_all
  obtain ⟨A0, a0, B0, b0, C0, c0, D0, e0, h, rfl, hI0, hl0⟩ := open_house (hval 0 26 v0 rfl rfl) h0
  refine (exactEndDeeds_any _ _ _ _ _ _ _ _ _ W hI0 hl0 hTP).mono fun e W' ⟨he, hb⟩ => ?_
  subst he
  have hts : ∀ t ∈ Tryd.f3.params.toList, Tryd.prog.readableRec t = true ∧ t < Tryd.prog.types.size := by
    rw [Tryd.params3]
    intro t ht
    simp only [List.mem_cons, List.not_mem_nil, or_false] at ht
    rcases ht with rfl <;> exact ⟨by kernel_rfl, of_decide_eq_true (by kernel_rfl)⟩
  have hgv : ∀ n ∈ Rows.fnExactEndDeedsSpec.vars, ∀ g t, Tryd.prog.globalNamed n = some g → (Tryd.prog.globals[g]?).map (·.type) = some t → Tryd.prog.readableRec t = true ∧ t < Tryd.prog.types.size := by
    intro n hn
    simp only [Rows.fnExactEndDeedsSpec, List.mem_cons, List.not_mem_nil, or_false] at hn
    rcases hn with rfl
    exact glob_pieces
  exact ⟨_, rfl, post_trueV hW' rfl Tryd.underlying4 hts hgv rfl rfl rfl hb⟩

set_option maxRecDepth 100000 in
theorem exactEndDeeds_holds : Rows.FnExactEndDeedsSaid :=
  OpenClaim.holds_of_wide 3 Tryd.f3 rfl rfl rfl rfl rfl rfl rfl ⟨rfl, rfl, rfl, rfl, rfl⟩ rfl rfl rfl rfl rfl (by kernel_rfl) Tryd.func3 (by kernel_rfl)
    (of_decide_eq_true (by kernel_rfl)) (by unfold Func.isWrapper; first | (rw [if_pos (by decide +kernel)]; kernel_rfl) | (rw [if_neg (by decide +kernel)]; exact ⟨rfl, rfl⟩))
    (fun os started H enc _ => returnsInHanded_of_change_and (C := Tryd.checked) (X := fun w _ => laidMet Tryd.prog laidEndDeeds w) (fun _ _ _ hh h => h.of_heap hh) own started (by kernel_rfl) Tryd.func3
      (ChangeSpec.witness_shaped (enc := enc) (C := Tryd.checked) (os := os) (X := fun w _ => laidMet Tryd.prog laidEndDeeds w) false (World.laidAll Tryd.prog os laidEndDeeds) #[.agg #[.slice none 0 0, .slice none 0 0, .slice none 0 0, .int .i64 0, .slice none 0 0]] 8 (World.laidAll_os _ _ _) (startEndDeeds_shaped os) (by kernel_rfl) (by kernel_rfl) (by kernel_rfl) (startEndDeeds_met os))
      (fun W base args ds gs before hval hW _ _ hL _ => exactEndDeeds_contract H enc W base args ds gs before hval hW hL))

set_option maxRecDepth 100000 in
theorem exactEndDeeds_card : Rows.FnExactEndDeedsCardSaid :=
  Claim7.holds_tied_plain_at .later [] [.data] true (true, "41227538296f2b0e9fb174576f8e19baf3abf9bd7b0b1d0bee841a993ce401e3") true
    exactEndDeeds_holds (fun _ h => by cases h) (by kernel_rfl) (fun _ h => by cases h) fnExactEndDeeds_row_tie rfl ⟨rfl, rfl⟩ (by kernel_rfl) rfl
    (fun f fn hf hfn => by
      obtain rfl : f = 3 := Option.some.inj ((show Tryd.prog.funcNamed "loop.example/restaurantkitchen/laws.FnExactEndDeeds" = some 3 by kernel_rfl).symm.trans hf) |>.symm
      obtain rfl : fn = Tryd.f3 := (Option.some.inj (Tryd.func3.symm.trans hfn)).symm
      exact ⟨by kernel_rfl, fun j t ht => by
        rw [Tryd.params3] at ht
        have h3 : t = 26 := by
          rcases j with _ | j
          · simpa using ht.symm
          · simp at ht
        rcases h3 with rfl
        · exact (show Tryd.prog.wantsStandIn 26 = false by kernel_rfl)⟩)
    (by kernel_rfl)
end Go.Proofs.YtmepnilnlpoodaaDoor
