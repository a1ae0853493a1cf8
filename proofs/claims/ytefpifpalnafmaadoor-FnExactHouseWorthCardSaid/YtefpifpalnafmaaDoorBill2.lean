/- Bill2: contracts of TableBill and HouseWorth of the reference model.
   Conditions: none. -/
import Derived.Test.YtefpifpalnafmaaDoorBill1
namespace Go.Proofs.YtefpifpalnafmaaDoor
open Go.RowKit Go.ChangeShapes Go.WideShapes Go.ChangeAt Go.Deep

set_option maxRecDepth 100000 in
set_option maxHeartbeats 4000000 in
theorem specTableBill_any (A B C D : Option Addr) (a b c d : Nat) (h : Hse) (n : Int) (w : World) (hA : HseAt w A B C D h) (hl : HseLe 1048576 h) :
    Calls Tryd.prog 12 #[hseV A a B b C c D d h, .int .i64 n] w fun e w' => e = .returned (.int .i64 (tableBill h n)) ∧ Below w.heap.size w w' := by
  have HL := hide hl
  have HA := hide hA
  clear hl hA
  have hba : Below w.heap.size w (w.alloc (.cells #[.slice A h.items.length a, .slice B h.prices.length b, .slice C h.stock.length c, .int .i64 h.cash, .slice D h.tables.length d] 32)) := by go_grown
  have hbx := heap_alloc_new w (.cells #[.slice A h.items.length a, .slice B h.prices.length b, .slice C h.stock.length c, .int .i64 h.cash, .slice D h.tables.length d] 32)
  obtain ⟨r, HR⟩ : ∃ r, Hid (tableBill h n = r) := ⟨_, hide rfl⟩
  rw [HR.out]
  go_enter Tryd.func12, Tryd.ntmps12
  go_upto_region 1 with fail
  obtain ⟨W, hW⟩ : ∃ W, w.alloc (.cells #[.slice A h.items.length a, .slice B h.prices.length b, .slice C h.stock.length c, .int .i64 h.cash, .slice D h.tables.length d] 32) = W := ⟨_, rfl⟩
  rw [hW] at hba hbx ⊢
  clear hW
  obtain ⟨c0, c1, c2, c3, c4⟩ := five_cells hbx
  go_wp2_with fail
  refine (specHouseValid_any _ _ _ _ _ _ _ _ _ _ (HA.out.below hba) HL.out).mono ?_
  rintro e W1 ⟨rfl, hB1⟩
  have hb1 := next hba hB1
  have hbx1 := (hB1.block w.heap.size (heap_ltH hbx)).trans hbx
  clear c0 c1 c2 c3 c4 hba hbx hB1
  obtain ⟨c0, c1, c2, c3, c4⟩ := five_cells hbx1
  cases hok : houseOk h with
  | false =>
    have hr : r = -1 := by rw [← HR.out]; exact tableBill_no (by rw [hok]; rfl)
    subst hr
    clear hok
    go_wp2_with fail
    go_ret
    exact ⟨rfl, hb1⟩
  | true =>
    have HOK := hide hok
    have ht4 := (houseOk_parts hok).2.2.2.2.1
    obtain ⟨β, hβ⟩ : ∃ β, inR n 0 ((h.tables.length : Int) - 1) = β := ⟨_, rfl⟩
    have HI := hide (fun W => l1In_is n 0 ((h.tables.length : Int) - 1) β (hide hβ) W)
    have HBT := hide hβ
    have hw1 : IntKind.i64.wrap ((h.tables.length : Int) - 1) = (h.tables.length : Int) - 1 := IntWalk.i64_in _ (by omega)
    clear hok hβ
    go_wp2_with fail
    refine (HI.out W1).mono ?_
    rintro e W2 ⟨rfl, h2⟩
    have h2 : W2 = W1 := by first | exact h2 | exact h2.symm
    subst W2
    cases β with
    | false =>
      have hr : r = -1 := by rw [← HR.out]; exact tableBill_no (by rw [HBT.out]; simp)
      subst hr
      go_wp2_with fail
      go_ret
      exact ⟨rfl, hb1⟩
    | true =>
      have hir := inR_iff.1 HBT.out
      obtain ⟨q, rfl⟩ : ∃ q : Nat, n = q := ⟨n.toNat, by omega⟩
      obtain ⟨x, hx⟩ : ∃ x, h.tables[q]? = some x := ⟨_, List.getElem?_eq_getElem (by omega)⟩
      have HRX : Hid (r = billL h.prices x) := hide (by rw [← HR.out]; unfold tableBill; rw [HOK.out, HBT.out, if_pos (by rfl), Int.toNat_natCast, List.getD_eq_getElem?_getD, hx]; rfl)
      have hfit := house_fit HOK.out (List.mem_of_getElem? hx)
      obtain ⟨tb, off, A', a', B', b', e, hbl, t0, t1, t2, hda, hia⟩ := (HA.out.tables.below hb1) q x hx
      subst e
      have hq0 : (0 : Int) ≤ q := by omega
      have hq1 : (q : Int) < h.tables.length := by omega
      have HF := hide hfit
      have hn6 := hfit.few
      have HD0 : Hid (r = 0 + billGo h.prices (x.dishes.drop 0) (x.of.drop 0)) := hide (by rw [HRX.out, Int.zero_add]; rfl)
      have HP := hide (HA.out.prices.below hb1)
      have HDA := hide hda
      have HIA := hide hia
      clear hx hfit hir hda hia
      go_wp2_with fail
      go_loopw [5, 6] (fun sv iv wr => ∃ (k : Nat) (s : Int), k ≤ x.dishes.length ∧ 0 ≤ s ∧ s ≤ 20 * k ∧ sv = .int .i64 s ∧ iv = .int .i64 k ∧ Hid (r = s + billGo h.prices (x.dishes.drop k) (x.of.drop k)) ∧ Hid (Below W1.heap.size W1 wr)) (fun _ iv _ => x.dishes.length - (intOf iv).toNat)
      case atStart => exact ⟨0, 0, Nat.zero_le _, by omega, by omega, rfl, rfl, HD0, hide (Below.refl _ _)⟩
      case round =>
        obtain ⟨k, s, hk, hs0, hs1, rfl, rfl, HD, HB⟩ := hrel
        have HX := hide ((HB.out.block w.heap.size (heap_ltH hbx1)).trans hbx1)
        have t1' := (HB.out.cell hbl).trans t1
        have t2' := (HB.out.cell hbl).trans t2
        have hbe := hb1.trans (HB.out.mono hb1.size)
        clear c0 c1 c2 c3 c4
        obtain ⟨c0, c1, c2, c3, c4⟩ := five_cells HX.out
        by_cases hlt : k < x.dishes.length
        · have hlt2 : k < x.of.length := by rw [HF.out.len]; exact hlt
          obtain ⟨dq, hq⟩ : ∃ dq, x.dishes[k]? = some dq := ⟨_, List.getElem?_eq_getElem hlt⟩
          obtain ⟨o, ho⟩ : ∃ o, x.of[k]? = some o := ⟨_, List.getElem?_eq_getElem hlt2⟩
          obtain ⟨o0, o1⟩ := HF.out.rng o (List.mem_of_getElem? ho)
          obtain ⟨on, rfl⟩ : ∃ on : Nat, o = on := ⟨o.toNat, by omega⟩
          obtain ⟨p, hp⟩ : ∃ p, h.prices[on]? = some p := ⟨_, List.getElem?_eq_getElem (by omega)⟩
          have hpr := rangeOk_at HF.out.val hp
          have HD2 : Hid (r = s + (if dq.state = 3 then p else 0) + billGo h.prices (x.dishes.drop (k + 1)) (x.of.drop (k + 1))) := hide (by
            rw [HD.out, List.drop_eq_getElem_cons hlt, List.drop_eq_getElem_cons hlt2, billGo]
            rw [List.getElem?_eq_getElem hlt] at hq
            rw [List.getElem?_eq_getElem hlt2] at ho
            injection hq with hq
            injection ho with ho
            rw [hq, ho, Int.toNat_natCast, List.getD_eq_getElem?_getD, hp, Option.getD_some]
            omega)
          obtain ⟨db, dof, rfl, hdl, d0, d1⟩ := (HDA.out.below HB.out) k dq hq
          obtain ⟨ob, oof, rfl, hol, e0⟩ := (HIA.out.below HB.out) k _ ho
          obtain ⟨pb, pof, rfl, hpl, f0⟩ := (HP.out.below HB.out) on p hp
          have hz : (0 : Int) ≤ k := by omega
          have hz2 : (k : Int) < x.dishes.length := by omega
          have hz3 : (k : Int) < x.of.length := by omega
          have hz4 : (0 : Int) ≤ on := by omega
          have hz5 : (on : Int) < h.prices.length := by omega
          have hw1 : IntKind.i64.wrap (s + p) = s + p := IntWalk.i64_in _ (by omega)
          clear hq ho hp
          obtain ⟨st, hst⟩ : ∃ st, dq.state = st := ⟨_, rfl⟩
          rw [hst] at d1 HD2
          by_cases h3 : st = 3
          · have h3b : (st == 3) = true := by simp [h3]
            rw [if_pos h3] at HD2
            clear h3 hst
            go_wp2_with fail
            go_quiet (fail)
            go_wp2_with fail
            go_roundw
            case rel => exact ⟨k + 1, s + p, hlt, by omega, by omega, by first | rfl | go_num, by go_num, HD2, hide (below_drewN HB.out _)⟩
            case measure => simp [intOf]; omega
          · have h3b : (st == 3) = false := by simp [h3]
            rw [if_neg h3, Int.add_zero] at HD2
            clear h3 hst
            go_wp2_with fail
            go_roundw
            case rel => exact ⟨k + 1, s, hlt, by omega, by omega, by first | rfl | go_num, by go_num, HD2, HB⟩
            case measure => simp [intOf]; omega
        · have hr : r = s := by
            rw [HD.out, List.drop_of_length_le (by omega)]
            simp [billGo]
          subst hr
          go_wp2_with fail
          go_ret
          exact ⟨rfl, hbe⟩

set_option maxRecDepth 100000 in
set_option maxHeartbeats 4000000 in
theorem specHouseWorth_any (A B C D : Option Addr) (a b c d : Nat) (h : Hse) (w : World) (hA : HseAt w A B C D h) (hl : HseLe 1048576 h) :
    Calls Tryd.prog 14 #[hseV A a B b C c D d h] w fun e w' => e = .returned (.int .i64 (houseWorth h)) ∧ Below w.heap.size w w' := by
  have HL := hide hl
  have HA := hide hA
  clear hl hA
  have hba : Below w.heap.size w (w.alloc (.cells #[.slice A h.items.length a, .slice B h.prices.length b, .slice C h.stock.length c, .int .i64 h.cash, .slice D h.tables.length d] 32)) := by go_grown
  have hbx := heap_alloc_new w (.cells #[.slice A h.items.length a, .slice B h.prices.length b, .slice C h.stock.length c, .int .i64 h.cash, .slice D h.tables.length d] 32)
  obtain ⟨r, HR⟩ : ∃ r, Hid (houseWorth h = r) := ⟨_, hide rfl⟩
  rw [HR.out]
  go_enter Tryd.func14, Tryd.ntmps14
  go_upto_region 1 with fail
  obtain ⟨W, hW⟩ : ∃ W, w.alloc (.cells #[.slice A h.items.length a, .slice B h.prices.length b, .slice C h.stock.length c, .int .i64 h.cash, .slice D h.tables.length d] 32) = W := ⟨_, rfl⟩
  rw [hW] at hba hbx ⊢
  clear hW
  obtain ⟨c0, c1, c2, c3, c4⟩ := five_cells hbx
  go_wp2_with fail
  refine (specHouseValid_any _ _ _ _ _ _ _ _ _ _ (HA.out.below hba) HL.out).mono ?_
  rintro e W1 ⟨rfl, hB1⟩
  have hb1 := next hba hB1
  have hbx1 := (hB1.block w.heap.size (heap_ltH hbx)).trans hbx
  clear c0 c1 c2 c3 c4 hba hbx hB1
  obtain ⟨c0, c1, c2, c3, c4⟩ := five_cells hbx1
  cases hok : houseOk h with
  | false =>
    have hr : r = -1 := by rw [← HR.out]; unfold houseWorth; rw [hok]; rfl
    subst hr
    clear hok
    go_wp2_with fail
    go_ret
    exact ⟨rfl, hb1⟩
  | true =>
    have HOK := hide hok
    obtain ⟨-, -, -, ⟨hc0, hc1⟩, ht4, -⟩ := houseOk_parts hok
    have HD0 : Hid (r = h.cash + sumBill h.prices (h.tables.drop 0)) := hide (by rw [← HR.out]; unfold houseWorth; rw [hok, if_pos rfl]; rfl)
    have HX0 := hide hbx1
    have HB0 := hide hb1
    clear hok hbx1 hb1
    go_wp2_with fail
    go_loopw [3, 4] (fun sv iv wr => ∃ (k : Nat) (s : Int), k ≤ h.tables.length ∧ 0 ≤ s ∧ s ≤ 99999 + 120 * k ∧ sv = .int .i64 s ∧ iv = .int .i64 k ∧ Hid (r = s + sumBill h.prices (h.tables.drop k)) ∧ Hid (wr.heap[w.heap.size]? = some (.cells #[.slice A h.items.length a, .slice B h.prices.length b, .slice C h.stock.length c, .int .i64 h.cash, .slice D h.tables.length d] 32 (0, 0))) ∧ Hid (Below w.heap.size w wr)) (fun _ iv _ => h.tables.length - (intOf iv).toNat)
    case atStart => exact ⟨0, h.cash, Nat.zero_le _, hc0, by omega, rfl, rfl, HD0, HX0, HB0⟩
    case round =>
      clear c0 c1 c2 c3 c4 HX0 HB0 HD0
      obtain ⟨k, s, hk, hs0, hs1, rfl, rfl, HD, HX, HB⟩ := hrel
      obtain ⟨c0, c1, c2, c3, c4⟩ := five_cells HX.out
      by_cases hlt : k < h.tables.length
      · obtain ⟨x, hx⟩ : ∃ x, h.tables[k]? = some x := ⟨_, List.getElem?_eq_getElem hlt⟩
        have hfit := house_fit HOK.out (List.mem_of_getElem? hx)
        have hbr := billL_rng hfit
        have HD2 : Hid (r = s + billL h.prices x + sumBill h.prices (h.tables.drop (k + 1))) := hide (by
          rw [HD.out, List.drop_eq_getElem_cons hlt, sumBill]
          rw [List.getElem?_eq_getElem hlt] at hx
          injection hx with hx
          rw [hx]
          omega)
        have HTB := hide (specTableBill_any A B C D a b c d h (k : Int) wr (HA.out.below HB.out) HL.out)
        have HTV : Hid (tableBill h (k : Int) = billL h.prices x) := hide (by
          unfold tableBill
          rw [HOK.out, inR_iff.2 ⟨by omega, by omega⟩, if_pos (by rfl), Int.toNat_natCast, List.getD_eq_getElem?_getD, hx]
          rfl)
        obtain ⟨v, hv⟩ : ∃ v, billL h.prices x = v := ⟨_, rfl⟩
        rw [hv] at hbr HD2 HTV
        have hz : (0 : Int) ≤ k := by omega
        have hz2 : (k : Int) < h.tables.length := by omega
        have hw1 : IntKind.i64.wrap (s + v) = s + v := IntWalk.i64_in _ (by omega)
        clear hx hfit hv
        go_wp2_with fail
        refine HTB.out.mono ?_
        rintro e V2 ⟨rfl, hB3⟩
        rw [HTV.out]
        have hb3 := next HB.out hB3
        have hx3 := (hB3.block w.heap.size (heap_ltH HX.out)).trans HX.out
        clear c0 c1 c2 c3 c4 hB3
        go_wp2_with fail
        go_roundw
        case rel => exact ⟨k + 1, s + v, hlt, by omega, by omega, by first | rfl | go_num, by go_num, HD2, hide hx3, hide hb3⟩
        case measure => simp [intOf]; omega
      · have hr : r = s := by
          rw [HD.out, List.drop_of_length_le (by omega)]
          simp [sumBill]
        subst hr
        go_wp2_with fail
        go_ret
        exact ⟨rfl, HB.out⟩
end Go.Proofs.YtefpifpalnafmaaDoor
