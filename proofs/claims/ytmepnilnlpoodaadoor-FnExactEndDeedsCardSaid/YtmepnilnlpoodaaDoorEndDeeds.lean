/- EndDeeds: contracts of the program and of the reference model.
   Conditions: the table of the states' pieces lies as laid (the program's). -/
import Derived.Test.YtmepnilnlpoodaaDoorSiteI
import Derived.Test.YtmepnilnlpoodaaDoorHouse2
import Derived.Test.YtmepnilnlpoodaaDoorDeeds
namespace Go.Proofs.YtmepnilnlpoodaaDoor
open Go.RowKit Go.ChangeShapes Go.WideShapes Go.ChangeAt Go.Deep

def dWork : HDeed := ⟨4, 0, 0, 0⟩
def dClose : HDeed := ⟨5, 0, 0, 0⟩
def endDeedsL (h : Hse) : List HDeed := if houseOk h = true then List.replicate (workLeftL (ticketsL h)).toNat dWork ++ List.replicate h.tables.length dClose else []
theorem workLeft_rng {h : Hse} (hk : houseOk h = true) : 0 ≤ workLeftL (ticketsL h) ∧ workLeftL (ticketsL h) ≤ 72 := by
  have hkk := house_kitchen hk
  have a := leftK_range (ticketsL h) (fun t ht => kitchenOk_at hkk ht)
  have b := kitchenOk_len hkk
  unfold workLeftL
  rw [if_pos hkk]
  omega
theorem rep_snoc {α : Type} (x : α) (n : Nat) : List.replicate n x ++ [x] = List.replicate (n + 1) x := by rw [← List.replicate_append_replicate (n := n) (m := 1)]; rfl
theorem endDeeds_len (h : Hse) : (endDeedsL h).length ≤ 76 := by
  unfold endDeedsL
  split
  · rename_i hk
    have a := workLeft_rng hk
    have b := (houseOk_parts hk).2.2.2.2.1
    rw [List.length_append, List.length_replicate, List.length_replicate]
    omega
  · simp

set_option maxRecDepth 100000 in
set_option maxHeartbeats 4000000 in
theorem implEndDeeds_any (A B C D : Option Addr) (a b c d : Nat) (h : Hse) (w : World) (hA : HseAt w A B C D h) (hl : HseLe 1048576 h) (hT : PiecesAt w) :
    Calls Tryd.prog 11 #[hseV A a B b C c D d h] w fun e w' => ∃ v, e = .returned v ∧ HDeedSl w' w.heap.size v (endDeedsL h) ∧ Below w.heap.size w w' := by
  have HL := hide hl
  have HA := hide hA
  clear hl hA
  have hba : Below w.heap.size w (w.alloc (.cells #[.slice A h.items.length a, .slice B h.prices.length b, .slice C h.stock.length c, .int .i64 h.cash, .slice D h.tables.length d] 33)) := by go_grown
  have hbx := heap_alloc_new w (.cells #[.slice A h.items.length a, .slice B h.prices.length b, .slice C h.stock.length c, .int .i64 h.cash, .slice D h.tables.length d] 33)
  obtain ⟨r, HR⟩ : ∃ r, Hid (endDeedsL h = r) := ⟨_, hide rfl⟩
  rw [HR.out]
  go_enter Tryd.func11, Tryd.ntmps11
  go_upto_region 1 with fail
  obtain ⟨W, hW⟩ : ∃ W, w.alloc (.cells #[.slice A h.items.length a, .slice B h.prices.length b, .slice C h.stock.length c, .int .i64 h.cash, .slice D h.tables.length d] 33) = W := ⟨_, rfl⟩
  rw [hW] at hba hbx ⊢
  clear hW
  obtain ⟨c0, c1, c2, c3, c4⟩ := five_cells hbx
  go_wp2_with fail
  refine (implHouseValid_any _ _ _ _ _ _ _ _ _ _ (HA.out.below hba) HL.out (hT.below hba)).mono ?_
  rintro e W1 ⟨rfl, hB1⟩
  have hb1 := next hba hB1
  have hbx1 := (hB1.block w.heap.size (heap_ltH hbx)).trans hbx
  clear c0 c1 c2 c3 c4 hba hbx hB1
  obtain ⟨c0, c1, c2, c3, c4⟩ := five_cells hbx1
  cases hok : houseOk h with
  | false =>
    have hr : r = [] := by rw [← HR.out]; unfold endDeedsL; rw [hok]; rfl
    subst hr
    clear hok
    go_wp2_with fail
    go_ret
    exact ⟨_, rfl, World.ownsRow_nil _ _ _ _, hb1⟩
  | true =>
    obtain ⟨hn0, hn1⟩ := workLeft_rng hok
    obtain ⟨n, hn⟩ : ∃ n : Nat, workLeftL (ticketsL h) = n := ⟨(workLeftL (ticketsL h)).toNat, by omega⟩
    have hr : Hid (r = List.replicate n dWork ++ List.replicate h.tables.length dClose) := hide (by rw [← HR.out]; unfold endDeedsL; rw [hok, if_pos rfl, hn]; rfl)
    have ht4 := (houseOk_parts hok).2.2.2.2.1
    rw [hn] at hn0 hn1
    clear hok
    go_wp2_with fail
    refine (siteOf_any _ _ _ _ _ _ _ _ _ _ (HA.out.below hb1) HL.out).mono ?_
    rintro e W2 ⟨X, V, rfl, hS, hB2⟩
    have hb2 := next hb1 hB2
    have hbx2 := (hB2.block w.heap.size (heap_ltH hbx1)).trans hbx1
    obtain ⟨A2, a2, B2, b2, C2, c2', D2, d2, e0, e1, e2, e3, hAt⟩ := hS.own.at_
    have hc2 := hS.cells.2.2.1
    rw [e3] at hc2
    clear c0 c1 c2 c3 c4 hbx1 hb1 hB2 hS e0 e1 e2 e3
    go_wp2_with fail
    refine (workLeft_any X D2 d2 h _ hc2 hAt.tables HL.out (hT.below hb2)).mono ?_
    rintro e W3 ⟨rfl, hB3⟩
    rw [hn]
    have HB3 := hide (next hb2 hB3)
    have HX3 := hide ((hB3.block w.heap.size (heap_ltH hbx2)).trans hbx2)
    clear hbx2 hb2 hB3 hc2 hAt hn
    go_wp2_with fail
    go_loopw [3, 12] (fun ov iv wr => ∃ k : Nat, k ≤ n ∧ iv = .int .i64 k ∧ Hid (HDeedSl wr (w.heap.size + 1) ov (List.replicate k dWork)) ∧ Hid (wr.heap[w.heap.size]? = some (.cells #[.slice A h.items.length a, .slice B h.prices.length b, .slice C h.stock.length c, .int .i64 h.cash, .slice D h.tables.length d] 33 (0, 0))) ∧ Hid (Below w.heap.size w wr)) (fun _ iv _ => n - (intOf iv).toNat)
    case atStart => exact ⟨0, Nat.zero_le _, rfl, hide (World.ownsRow_nil _ _ _ _), HX3, HB3⟩
    case round =>
      clear HX3 HB3
      obtain ⟨k, hk, rfl, HO, HX, HB⟩ := hrel
      obtain ⟨os, ho⟩ : ∃ os, List.replicate k dWork = os := ⟨_, rfl⟩
      have hol : os.length = k := by rw [← ho, List.length_replicate]
      rw [ho] at HO
      obtain ⟨O1, o1, eO, -⟩ := HDeedSl.form HO.out
      subst eO
      by_cases hlk : k < n
      · have HLE := hide hol
        have HOs := hide ho
        have hz : (0 : Int) ≤ k := by omega
        have hz2 : (k : Int) < n := by omega
        clear hol ho
        go_wp2_with (at_builtin; refine wpList_push_hdeed rfl _ _ rfl (w.heap.size + 1) (.slice O1 os.length o1) os rfl (World.ownsRow.alloc HO.out _) _ dWork rfl (heap_alloc_new _ _) (by rw [HLE.out]; omega) (by rw [World.size_alloc]; have := heap_ltH HX.out; omega) ?_; intro g' cap w' hown hgrow)
        have HOn : Hid (HDeedSl w' (w.heap.size + 1) (.slice (some ⟨g', 0, none⟩) (os.length + 1) cap) (List.replicate (k + 1) dWork)) := hide (by rw [← rep_snoc, HOs.out]; exact hown)
        have HXn := hide ((hgrow.block w.heap.size (by rw [World.size_alloc]; have := heap_ltH HX.out; omega) (fun e => by have := (World.ownsRow.lt HO.out _ e.symm).1; omega)).trans ((heap_alloc_old wr _ (heap_ltH HX.out)).trans HX.out))
        have HBn := hide ((HB.out.alloc (o := .cells #[.int .i64 4, .int .i64 0, .int .i64 0, .int .i64 0] 43) HB.out.size).grown hgrow (by rw [World.size_alloc]; have := HB.out.size; omega) (fun j hj => by have := (World.ownsRow.lt HO.out j hj).1; omega))
        go_wp2_with fail
        go_roundw
        case rel => exact ⟨k + 1, hlk, by go_num, HOn, HXn, HBn⟩
        case measure => simp [intOf]; omega
      · obtain rfl : k = n := by omega
        obtain ⟨c0, c1, c2, c3, c4⟩ := five_cells HX.out
        have HL5 : Hid (os.length = k) := hide hol
        have hr2 : Hid (r = os ++ List.replicate h.tables.length dClose) := hide (by rw [hr.out, ho])
        have HO0 : Hid (HDeedSl wr (w.heap.size + 1) (.slice O1 os.length o1) (os ++ List.replicate 0 dClose)) := hide (by simpa using HO.out)
        obtain ⟨wo, hwo⟩ : ∃ wo, wo = wr := ⟨_, rfl⟩
        subst hwo
        have HX0 := hide HX.out
        have HB0 := hide HB.out
        clear hol ho HO HX HB hr
        go_wp2_with fail
        go_loopw [3, 22] (fun ov iv wr => ∃ j : Nat, j ≤ h.tables.length ∧ iv = .int .i64 j ∧ Hid (HDeedSl wr (w.heap.size + 1) ov (os ++ List.replicate j dClose)) ∧ Hid (wr.heap[w.heap.size]? = some (.cells #[.slice A h.items.length a, .slice B h.prices.length b, .slice C h.stock.length c, .int .i64 h.cash, .slice D h.tables.length d] 33 (0, 0))) ∧ Hid (Below w.heap.size w wr)) (fun _ iv _ => h.tables.length - (intOf iv).toNat)
        case atStart => exact ⟨0, Nat.zero_le _, rfl, HO0, HX0, HB0⟩
        case round =>
          clear HX0 HB0 HO0 c0 c1 c2 c3 c4
          obtain ⟨j, hj, rfl, HO, HX, HB⟩ := hrel
          obtain ⟨c0, c1, c2, c3, c4⟩ := five_cells HX.out
          obtain ⟨ps, hp⟩ : ∃ ps, os ++ List.replicate j dClose = ps := ⟨_, rfl⟩
          have hpl : ps.length = k + j := by rw [← hp, List.length_append, List.length_replicate, HL5.out]
          rw [hp] at HO
          obtain ⟨O2, o2, eO, -⟩ := HDeedSl.form HO.out
          subst eO
          by_cases hlj : j < h.tables.length
          · have HLE := hide hpl
            have HPs := hide hp
            have hz : (0 : Int) ≤ j := by omega
            have hz2 : (j : Int) < h.tables.length := by omega
            clear hpl hp
            go_wp2_with (at_builtin; refine wpList_push_hdeed rfl _ _ rfl (w.heap.size + 1) (.slice O2 ps.length o2) ps rfl (World.ownsRow.alloc HO.out _) _ dClose rfl (heap_alloc_new _ _) (by rw [HLE.out]; omega) (by rw [World.size_alloc]; have := heap_ltH HX.out; omega) ?_; intro g' cap w' hown hgrow)
            have HOn : Hid (HDeedSl w' (w.heap.size + 1) (.slice (some ⟨g', 0, none⟩) (ps.length + 1) cap) (os ++ List.replicate (j + 1) dClose)) := hide (by rw [← rep_snoc, ← List.append_assoc, HPs.out]; exact hown)
            have HXn := hide ((hgrow.block w.heap.size (by rw [World.size_alloc]; have := heap_ltH HX.out; omega) (fun e => by have := (World.ownsRow.lt HO.out _ e.symm).1; omega)).trans ((heap_alloc_old wr _ (heap_ltH HX.out)).trans HX.out))
            have HBn := hide ((HB.out.alloc (o := .cells #[.int .i64 5, .int .i64 0, .int .i64 0, .int .i64 0] 43) HB.out.size).grown hgrow (by rw [World.size_alloc]; have := HB.out.size; omega) (fun j hj => by have := (World.ownsRow.lt HO.out j hj).1; omega))
            go_wp2_with fail
            go_roundw
            case rel => first | exact ⟨j + 1, hlj, by go_num, HOn, HXn, HBn⟩ | exact ⟨⟨j + 1, hlj, by go_num, HOn, HXn, HBn⟩, rfl⟩ | ((repeat apply Exists.intro); exact ⟨⟨hlj, by go_num, HOn, HXn, HBn⟩, rfl⟩)
            case measure => simp [intOf]; omega
          · have HE : Hid (r = ps) := hide (by rw [hr2.out, ← hp, show j = h.tables.length from by omega])
            clear hpl hp
            go_wp2_with fail
            refine bodyPost_ret (results_tmp rfl _ _ _) rfl ⟨_, rfl, by rw [HE.out]; exact ownsRow_monoH HO.out (Nat.le_succ _), HB.out⟩

set_option maxRecDepth 100000 in
set_option maxHeartbeats 4000000 in
theorem specEndDeeds_any (A B C D : Option Addr) (a b c d : Nat) (h : Hse) (w : World) (hA : HseAt w A B C D h) (hl : HseLe 1048576 h) :
    Calls Tryd.prog 9 #[hseV A a B b C c D d h] w fun e w' => ∃ v, e = .returned v ∧ HDeedSl w' w.heap.size v (endDeedsL h) ∧ Below w.heap.size w w' := by
  have HL := hide hl
  have HA := hide hA
  clear hl hA
  have hba : Below w.heap.size w (w.alloc (.cells #[.slice A h.items.length a, .slice B h.prices.length b, .slice C h.stock.length c, .int .i64 h.cash, .slice D h.tables.length d] 33)) := by go_grown
  have hbx := heap_alloc_new w (.cells #[.slice A h.items.length a, .slice B h.prices.length b, .slice C h.stock.length c, .int .i64 h.cash, .slice D h.tables.length d] 33)
  obtain ⟨r, HR⟩ : ∃ r, Hid (endDeedsL h = r) := ⟨_, hide rfl⟩
  rw [HR.out]
  go_enter Tryd.func9, Tryd.ntmps9
  go_upto_region 1 with fail
  obtain ⟨W0, hW⟩ : ∃ W, w.alloc (.cells #[.slice A h.items.length a, .slice B h.prices.length b, .slice C h.stock.length c, .int .i64 h.cash, .slice D h.tables.length d] 33) = W := ⟨_, rfl⟩
  rw [hW] at hba hbx ⊢
  clear hW
  have hgt := heap_ltH hbx
  have HO := hide (show HDeedSl (W0.alloc (.cells #[] 43)) (w.heap.size + 1) (.slice (some ⟨W0.heap.size, 0, none⟩) 0 0) [] from World.ownsRow_lit W0 #[] 0 (by omega) (by unfold maxLen; omega) rfl)
  have hbx := (heap_alloc_old W0 (.cells #[] 43) hgt).trans hbx
  have hba := hba.alloc (o := .cells #[] 43) hba.size
  go_upto_region 2 with fail
  obtain ⟨W, hW⟩ : ∃ W, W0.alloc (.cells #[] 43) = W := ⟨_, rfl⟩
  obtain ⟨gO, hgO⟩ : ∃ gO, W0.heap.size = gO := ⟨_, rfl⟩
  rw [hW] at hba hbx HO
  rw [hW]
  rw [hgO] at HO
  rw [hgO]
  clear hW hgt hgO
  obtain ⟨c0, c1, c2, c3, c4⟩ := five_cells hbx
  go_wp2_with fail
  refine (specHouseValid_any _ _ _ _ _ _ _ _ _ _ (HA.out.below hba) HL.out).mono ?_
  rintro e W1 ⟨rfl, hB1⟩
  have hb1 := next hba hB1
  have hbx1 := (hB1.block w.heap.size (heap_ltH hbx)).trans hbx
  have HO1 := hide (HO.out.below hB1)
  clear c0 c1 c2 c3 c4 hba hbx hB1 HO
  obtain ⟨c0, c1, c2, c3, c4⟩ := five_cells hbx1
  cases hok : houseOk h with
  | false =>
    have hr : r = [] := by rw [← HR.out]; unfold endDeedsL; rw [hok]; rfl
    subst hr
    have HQ : HDeedSl W1 w.heap.size (.slice (some ⟨gO, 0, none⟩) 0 0) [] := ownsRow_monoH HO1.out (Nat.le_succ _)
    clear hok
    go_wp2_with fail
    refine bodyPost_ret (results_tmp rfl _ _ _) rfl ⟨_, rfl, by exact HQ, hb1⟩
  | true =>
    obtain ⟨hn0, hn1⟩ := workLeft_rng hok
    obtain ⟨n, hn⟩ : ∃ n : Nat, workLeftL (ticketsL h) = n := ⟨(workLeftL (ticketsL h)).toNat, by omega⟩
    have hr : Hid (r = List.replicate n dWork ++ List.replicate h.tables.length dClose) := hide (by rw [← HR.out]; unfold endDeedsL; rw [hok, if_pos rfl, hn]; rfl)
    have ht4 := (houseOk_parts hok).2.2.2.2.1
    obtain ⟨htl, htr⟩ := tickets_le HL.out
    have HTR := hide htr
    rw [hn] at hn0 hn1
    clear hok htr
    go_wp2_with fail
    refine (l7Tickets_any _ _ _ _ _ _ _ _ h _ (HA.out.tables.below hb1) HL.out).mono ?_
    rintro e W2 ⟨A2, c2', rfl, hT2, hB2⟩
    have hb2 := next hb1 hB2
    have hbx2 := (hB2.block w.heap.size (heap_ltH hbx1)).trans hbx1
    have HO2 := hide (HO1.out.below hB2)
    clear c0 c1 c2 c3 c4 hbx1 hb1 hB2 HO1
    go_wp2_with fail
    refine (specWorkLeft_any _ _ _ _ hT2 htl HTR.out).mono ?_
    rintro e W3 ⟨rfl, hB3⟩
    rw [hn]
    have HB3 := hide (next hb2 hB3)
    have HX3 := hide ((hB3.block w.heap.size (heap_ltH hbx2)).trans hbx2)
    have HO3 := hide (HO2.out.below hB3)
    clear hbx2 hb2 hB3 hn hT2 HO2
    go_wp2_with fail
    go_loopw [3, 4] (fun ov iv wr => ∃ k : Nat, k ≤ n ∧ iv = .int .i64 ((n : Int) - k) ∧ Hid (HDeedSl wr (w.heap.size + 1) ov (List.replicate k dWork)) ∧ Hid (wr.heap[w.heap.size]? = some (.cells #[.slice A h.items.length a, .slice B h.prices.length b, .slice C h.stock.length c, .int .i64 h.cash, .slice D h.tables.length d] 33 (0, 0))) ∧ Hid (Below w.heap.size w wr)) (fun _ iv _ => (intOf iv).toNat)
    case atStart => exact ⟨0, Nat.zero_le _, by simp, HO3, HX3, HB3⟩
    case round =>
      clear HX3 HB3 HO3
      obtain ⟨k, hk, rfl, HO, HX, HB⟩ := hrel
      obtain ⟨os, ho⟩ : ∃ os, List.replicate k dWork = os := ⟨_, rfl⟩
      have hol : os.length = k := by rw [← ho, List.length_replicate]
      rw [ho] at HO
      obtain ⟨O1, o1, eO, -⟩ := HDeedSl.form HO.out
      subst eO
      by_cases hlk : k < n
      · have HLE := hide hol
        have HOs := hide ho
        have hz : (0 : Int) < (n : Int) - k := by omega
        clear hol ho
        go_wp2_with (at_builtin; refine wpList_push_hdeed rfl _ _ rfl (w.heap.size + 1) (.slice O1 os.length o1) os rfl (World.ownsRow.alloc HO.out _) _ dWork rfl (heap_alloc_new _ _) (by rw [HLE.out]; omega) (by rw [World.size_alloc]; have := heap_ltH HX.out; omega) ?_; intro g' cap w' hown hgrow)
        have HOn : Hid (HDeedSl w' (w.heap.size + 1) (.slice (some ⟨g', 0, none⟩) (os.length + 1) cap) (List.replicate (k + 1) dWork)) := hide (by rw [← rep_snoc, HOs.out]; exact hown)
        have HXn := hide ((hgrow.block w.heap.size (by rw [World.size_alloc]; have := heap_ltH HX.out; omega) (fun e => by have := (World.ownsRow.lt HO.out _ e.symm).1; omega)).trans ((heap_alloc_old wr _ (heap_ltH HX.out)).trans HX.out))
        have HBn := hide ((HB.out.alloc (o := .cells #[.int .i64 4, .int .i64 0, .int .i64 0, .int .i64 0] 43) HB.out.size).grown hgrow (by rw [World.size_alloc]; have := HB.out.size; omega) (fun j hj => by have := (World.ownsRow.lt HO.out j hj).1; omega))
        have hw : IntKind.i64.wrap ((n : Int) - k - 1) = (n : Int) - k - 1 := IntWalk.i64_in _ (by omega)
        go_wp2_with fail
        go_roundw
        case rel => exact ⟨k + 1, hlk, by go_num, HOn, HXn, HBn⟩
        case measure => simp [intOf]; omega
      · obtain rfl : k = n := by omega
        obtain ⟨c0, c1, c2, c3, c4⟩ := five_cells HX.out
        have HL5 : Hid (os.length = k) := hide hol
        have hr2 : Hid (r = os ++ List.replicate h.tables.length dClose) := hide (by rw [hr.out, ho])
        have HO0 : Hid (HDeedSl wr (w.heap.size + 1) (.slice O1 os.length o1) (os ++ List.replicate 0 dClose)) := hide (by simpa using HO.out)
        obtain ⟨wo, hwo⟩ : ∃ wo, wo = wr := ⟨_, rfl⟩
        subst hwo
        have HX0 := hide HX.out
        have HB0 := hide HB.out
        have hz : ¬ (0 : Int) < (k : Int) - k := by omega
        clear hol ho HO HX HB hr
        go_wp2_with fail
        go_loopw [3, 5] (fun ov iv wr => ∃ j : Nat, j ≤ h.tables.length ∧ iv = .int .i64 j ∧ Hid (HDeedSl wr (w.heap.size + 1) ov (os ++ List.replicate j dClose)) ∧ Hid (wr.heap[w.heap.size]? = some (.cells #[.slice A h.items.length a, .slice B h.prices.length b, .slice C h.stock.length c, .int .i64 h.cash, .slice D h.tables.length d] 33 (0, 0))) ∧ Hid (Below w.heap.size w wr)) (fun _ iv _ => h.tables.length - (intOf iv).toNat)
        case atStart => exact ⟨0, Nat.zero_le _, rfl, HO0, HX0, HB0⟩
        case round =>
          clear HX0 HB0 HO0 c0 c1 c2 c3 c4
          obtain ⟨j, hj, rfl, HO, HX, HB⟩ := hrel
          obtain ⟨c0, c1, c2, c3, c4⟩ := five_cells HX.out
          obtain ⟨ps, hp⟩ : ∃ ps, os ++ List.replicate j dClose = ps := ⟨_, rfl⟩
          have hpl : ps.length = k + j := by rw [← hp, List.length_append, List.length_replicate, HL5.out]
          rw [hp] at HO
          obtain ⟨O2, o2, eO, -⟩ := HDeedSl.form HO.out
          subst eO
          by_cases hlj : j < h.tables.length
          · have HLE := hide hpl
            have HPs := hide hp
            have hz : (0 : Int) ≤ j := by omega
            have hz2 : (j : Int) < h.tables.length := by omega
            clear hpl hp
            go_wp2_with (at_builtin; refine wpList_push_hdeed rfl _ _ rfl (w.heap.size + 1) (.slice O2 ps.length o2) ps rfl (World.ownsRow.alloc HO.out _) _ dClose rfl (heap_alloc_new _ _) (by rw [HLE.out]; omega) (by rw [World.size_alloc]; have := heap_ltH HX.out; omega) ?_; intro g' cap w' hown hgrow)
            have HOn : Hid (HDeedSl w' (w.heap.size + 1) (.slice (some ⟨g', 0, none⟩) (ps.length + 1) cap) (os ++ List.replicate (j + 1) dClose)) := hide (by rw [← rep_snoc, ← List.append_assoc, HPs.out]; exact hown)
            have HXn := hide ((hgrow.block w.heap.size (by rw [World.size_alloc]; have := heap_ltH HX.out; omega) (fun e => by have := (World.ownsRow.lt HO.out _ e.symm).1; omega)).trans ((heap_alloc_old wr _ (heap_ltH HX.out)).trans HX.out))
            have HBn := hide ((HB.out.alloc (o := .cells #[.int .i64 5, .int .i64 0, .int .i64 0, .int .i64 0] 43) HB.out.size).grown hgrow (by rw [World.size_alloc]; have := HB.out.size; omega) (fun j hj => by have := (World.ownsRow.lt HO.out j hj).1; omega))
            go_wp2_with fail
            go_roundw
            case rel => first | exact ⟨j + 1, hlj, by go_num, HOn, HXn, HBn⟩ | exact ⟨⟨j + 1, hlj, by go_num, HOn, HXn, HBn⟩, rfl⟩ | ((repeat apply Exists.intro); exact ⟨⟨hlj, by go_num, HOn, HXn, HBn⟩, rfl⟩)
            case measure => simp [intOf]; omega
          · have HE : Hid (r = ps) := hide (by rw [hr2.out, ← hp, show j = h.tables.length from by omega])
            clear hpl hp
            go_wp2_with fail
            refine bodyPost_ret (results_tmp rfl _ _ _) rfl ⟨_, rfl, by rw [HE.out]; exact ownsRow_monoH HO.out (Nat.le_succ _), HB.out⟩
end Go.Proofs.YtmepnilnlpoodaaDoor
