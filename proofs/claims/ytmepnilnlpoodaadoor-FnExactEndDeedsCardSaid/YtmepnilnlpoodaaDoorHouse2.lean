/- House2: contract of HouseValid of the reference model.
   Conditions: none. -/
import Derived.Test.YtmepnilnlpoodaaDoorHouse1
namespace Go.Proofs.YtmepnilnlpoodaaDoor
open Go.RowKit Go.ChangeShapes Go.WideShapes Go.ChangeAt Go.Deep

set_option maxRecDepth 100000 in
set_option maxHeartbeats 4000000 in
theorem specHouseValid_any (A B C D : Option Addr) (a b c d : Nat) (h : Hse) (w : World) (hA : HseAt w A B C D h) (hl : HseLe 1048576 h) :
    Calls Tryd.prog 32 #[hseV A a B b C c D d h] w fun e w' => e = .returned (.bool (houseOk h)) ∧ Below w.heap.size w w' := by
  have HL := hide hl
  have HA := hide hA
  clear hl hA
  have hl1 := HL.out.stock
  have hba : Below w.heap.size w (w.alloc (.cells #[.slice A h.items.length a, .slice B h.prices.length b, .slice C h.stock.length c, .int .i64 h.cash, .slice D h.tables.length d] 33)) := by go_grown
  have hbx := heap_alloc_new w (.cells #[.slice A h.items.length a, .slice B h.prices.length b, .slice C h.stock.length c, .int .i64 h.cash, .slice D h.tables.length d] 33)
  obtain ⟨r, HR⟩ : ∃ r, Hid (houseOk h = r) := ⟨_, hide rfl⟩
  rw [HR.out]
  go_enter Tryd.func32, Tryd.ntmps32
  go_upto_region 1 with fail
  obtain ⟨W, hW⟩ : ∃ W, w.alloc (.cells #[.slice A h.items.length a, .slice B h.prices.length b, .slice C h.stock.length c, .int .i64 h.cash, .slice D h.tables.length d] 33) = W := ⟨_, rfl⟩
  rw [hW] at hba hbx ⊢
  clear hW
  obtain ⟨c0, c1, c2, c3, c4⟩ := five_cells hbx
  obtain ⟨β1, hβ1⟩ : ∃ β, pricesOk h.items h.prices = β := ⟨_, rfl⟩
  go_wp2_with fail
  refine (specPricesValid_any _ _ _ _ _ _ _ (HA.out.items.below hba) HL.out.items HL.out.parts (HA.out.prices.below hba) HL.out.prices).mono ?_
  rintro e W1 ⟨rfl, hB1⟩
  rw [hβ1]
  have hb1 := next hba hB1
  have hbx1 := (hB1.block w.heap.size (heap_ltH hbx)).trans hbx
  clear c0 c1 c2 c3 c4 hba hbx hB1
  obtain ⟨c0, c1, c2, c3, c4⟩ := five_cells hbx1
  cases β1 with
  | false =>
    have hr : r = false := by rw [← HR.out]; unfold houseOk; rw [hβ1]; rfl
    subst hr
    clear hβ1
    go_wp2_with fail
    go_ret
    exact ⟨rfl, hb1⟩
  | true =>
    obtain ⟨β2, hβ2⟩ : ∃ β, (decide ((h.stock.length : Int) = h.items.length) && rangeOk 50 h.stock) = β := ⟨_, rfl⟩
    have HS := HA.out.stock.below hb1
    go_wp2_with fail
    refine (l1Amounts_any _ _ _ _ _ _ _ HS hl1).mono ?_
    rintro e W2 ⟨rfl, h2⟩
    have h2 : W2 = W1 := by first | exact h2 | exact h2.symm
    subst W2
    rw [hβ2]
    obtain ⟨W2, hW2⟩ : ∃ W2, W2 = W1 := ⟨_, rfl⟩
    subst hW2
    have hb2 := hb1
    have hbx2 := hbx1
    clear c0 c1 c2 c3 c4 HS hb1 hbx1
    obtain ⟨c0, c1, c2, c3, c4⟩ := five_cells hbx2
    cases β2 with
    | false =>
      have hr : r = false := by rw [← HR.out]; unfold houseOk; rw [hβ1, hβ2]; rfl
      subst hr
      clear hβ1 hβ2
      go_wp2_with fail
      go_ret
      exact ⟨rfl, hb2⟩
    | true =>
      obtain ⟨β3, hβ3⟩ : ∃ β, inR h.cash 0 99999 = β := ⟨_, rfl⟩
      have HI := hide (fun W => l1In_is h.cash 0 99999 β3 (hide hβ3) W)
      have HBB := hide (And.intro hβ1 (And.intro hβ2 hβ3))
      clear hβ1 hβ2 hβ3
      go_wp2_with fail
      refine (HI.out W2).mono ?_
      rintro e W3 ⟨rfl, h3⟩
      have h3 : W3 = W2 := by first | exact h3 | exact h3.symm
      subst W3
      cases β3 with
      | false =>
        have hr : r = false := by rw [← HR.out]; unfold houseOk; rw [HBB.out.1, HBB.out.2.1, HBB.out.2.2]; rfl
        subst hr
        go_wp2_with fail
        go_ret
        exact ⟨rfl, hb2⟩
      | true =>
        by_cases hn : h.tables.length ≤ 4
        · have hn2 : ¬ (4 : Int) < h.tables.length := by omega
          have HQ : Hid (r = h.tables.all (tblOk h.items)) := hide (by rw [← HR.out]; unfold houseOk; rw [HBB.out.1, HBB.out.2.1, HBB.out.2.2, decide_eq_true hn]; rfl)
          have HB2 := hide hbx2
          have Hb2 := hide hb2
          go_wp2_with fail
          go_loopw [3] (fun iv wr => ∃ k : Nat, k ≤ h.tables.length ∧ iv = .int .i64 k ∧ Hid (r = (h.tables.drop k).all (tblOk h.items)) ∧ Hid (wr.heap[w.heap.size]? = some (.cells #[.slice A h.items.length a, .slice B h.prices.length b, .slice C h.stock.length c, .int .i64 h.cash, .slice D h.tables.length d] 33 (0, 0))) ∧ Hid (Below w.heap.size w wr)) (fun iv _ => h.tables.length - (intOf iv).toNat)
          case atStart => exact ⟨0, Nat.zero_le _, rfl, by simpa using HQ, HB2, Hb2⟩
          case round =>
            clear c0 c1 c2 c3 c4 hb2 hbx2 HB2 Hb2
            obtain ⟨k, hk, rfl, HK, HX, HB⟩ := hrel
            obtain ⟨c0, c1, c2, c3, c4⟩ := five_cells HX.out
            by_cases hlt : k < h.tables.length
            · obtain ⟨tb, off, A', a', B', b', e, hbl, t0, t1, t2, hda, hia⟩ := (HA.out.tables.below HB.out) k h.tables[k] (List.getElem?_eq_getElem hlt)
              have HD : Hid (h.tables.drop k = h.tables[k] :: h.tables.drop (k + 1)) := hide (List.drop_eq_getElem_cons hlt)
              have HX1 := hide (HL.out.rows _ (List.getElem_mem hlt))
              generalize h.tables[k] = x at t0 t1 t2 hda hia HD HX1
              subst e
              have hz : (0 : Int) ≤ k := by omega
              have hz2 : (k : Int) < h.tables.length := by omega
              have hbs : Below wr.heap.size wr (wr.alloc (.cells #[.int .i64 x.avoid, .slice A' x.dishes.length a', .slice B' x.of.length b'] 115)) := (Below.refl _ _).alloc (Nat.le_refl _) _
              have hby := heap_alloc_new wr (.cells #[.int .i64 x.avoid, .slice A' x.dishes.length a', .slice B' x.of.length b'] 115)
              obtain ⟨wo, ho⟩ : ∃ wo, wo = wr := ⟨_, rfl⟩
              subst ho
              go_upto_region 7 with fail
              obtain ⟨V, hV⟩ : ∃ V, wo.alloc (.cells #[.int .i64 x.avoid, .slice A' x.dishes.length a', .slice B' x.of.length b'] 115) = V := ⟨_, rfl⟩
              rw [hV] at hbs hby ⊢
              clear hV c0 c1 c2 c3 c4 t0 t1 t2
              have HX2 := hide ((hbs.block w.heap.size (heap_ltH HX.out)).trans HX.out)
              obtain ⟨c0, c1, c2, c3, c4⟩ := five_cells HX2.out
              obtain ⟨t0, t1, t2⟩ := box3_cells hby
              have hb3 := HB.out.trans (hbs.mono HB.out.size)
              have hdV := hda.below hbs
              have hiV := hia.below hbs
              obtain ⟨hx1, hx2⟩ := HX1.out
              obtain ⟨γ1, hγ1⟩ : ∃ β, inR x.avoid 0 31 = β := ⟨_, rfl⟩
              have HI2 := hide (fun W => l1In_is x.avoid 0 31 γ1 (hide hγ1) W)
              have HG1 := hide hγ1
              have HdV := hide hdV
              have HiV := hide hiV
              clear hda hia hbs hγ1 hdV hiV
              go_wp2_with fail
              refine (HI2.out V).mono ?_
              rintro e V1 ⟨rfl, h1⟩
              have h1 : V1 = V := by first | exact h1 | exact h1.symm
              subst V1
              cases γ1 with
              | false =>
                have hr : r = false := by rw [HK.out, HD.out, List.all_cons]; unfold tblOk; rw [HG1.out]; rfl
                subst hr
                go_wp2_with fail
                go_ret
                exact ⟨rfl, hb3⟩
              | true =>
                obtain ⟨γ2, hγ2⟩ : ∃ β, ticketOkL x.dishes = β := ⟨_, rfl⟩
                go_wp2_with fail
                refine (specTicketValid_any _ _ _ _ HdV.out hx1).mono ?_
                rintro e V2 ⟨rfl, hB2⟩
                rw [hγ2]
                have HG2 := hide hγ2
                have hb4 := next hb3 hB2
                have hxx := (hB2.block w.heap.size (heap_ltH HX2.out)).trans HX2.out
                have hyy := (hB2.block wo.heap.size (heap_ltH hby)).trans hby
                clear c0 c1 c2 c3 c4 t0 t1 t2 hγ2 hby
                obtain ⟨c0, c1, c2, c3, c4⟩ := five_cells hxx
                obtain ⟨t0, t1, t2⟩ := box3_cells hyy
                have HiV2 := hide (HiV.out.below hB2)
                clear hB2
                cases γ2 with
                | false =>
                  have hr : r = false := by rw [HK.out, HD.out, List.all_cons]; unfold tblOk; rw [HG1.out, HG2.out]; rfl
                  subst hr
                  go_wp2_with fail
                  go_ret
                  exact ⟨rfl, hb4⟩
                | true =>
                  by_cases hm : (x.of.length : Int) = x.dishes.length
                  · have hne : ((x.of.length : Int) != (x.dishes.length : Int)) = false := by rw [hm]; simp
                    have HQ2 : Hid (r = (x.of.all (hasI (freeL h.items x.avoid)) && (h.tables.drop (k + 1)).all (tblOk h.items))) := hide (by rw [HK.out, HD.out, List.all_cons]; congr 1; unfold tblOk; rw [HG1.out, HG2.out, decide_eq_true hm]; rfl)
                    clear hm
                    go_wp2_with fail
                    refine (specFreeOf_any _ _ _ _ _ (HA.out.items.below hb4) HL.out.items HL.out.parts).mono ?_
                    rintro e V3 ⟨v, rfl, hF, hB3⟩
                    have hb5 := next hb4 hB3
                    have hxx3 := (hB3.block w.heap.size (heap_ltH hxx)).trans hxx
                    have hyy3 := (hB3.block wo.heap.size (heap_ltH hyy)).trans hyy
                    obtain ⟨fs, hfs⟩ : ∃ fs, freeL h.items x.avoid = fs := ⟨_, rfl⟩
                    have hfl : fs.length ≤ 1048576 := by rw [← hfs]; exact Nat.le_trans (freeL_lenH h.items x.avoid) HL.out.items
                    rw [hfs] at hF HQ2
                    clear hfs
                    obtain ⟨F, cf, rfl, hFI, -⟩ := hF.form
                    have HFF := hide (fun v => l1Has_any F cf fs v V3 hFI hfl)
                    have HO := hide (HiV2.out.below hB3)
                    clear c0 c1 c2 c3 c4 t0 t1 t2 hxx hyy hF hFI hB3
                    obtain ⟨c0, c1, c2, c3, c4⟩ := five_cells hxx3
                    obtain ⟨t0, t1, t2⟩ := box3_cells hyy3
                    have HX5 := hide hxx3
                    clear hxx3 hyy3
                    go_wp2_with fail
                    go_loopw [6] (fun jv wr => ∃ j : Nat, j ≤ x.of.length ∧ jv = .int .i64 j ∧ Hid (r = ((x.of.drop j).all (hasI fs) && (h.tables.drop (k + 1)).all (tblOk h.items))) ∧ wr = V3) (fun jv _ => x.of.length - (intOf jv).toNat)
                    case atStart => exact ⟨0, Nat.zero_le _, rfl, by simpa using HQ2, rfl⟩
                    case round =>
                      obtain ⟨j, hj, rfl, HJ, hw⟩ := hrel
                      subst hw
                      by_cases hjl : j < x.of.length
                      · obtain ⟨bb, oo, e, hol, o0⟩ := HO.out j x.of[j] (List.getElem?_eq_getElem hjl)
                        have HE : Hid (x.of.drop j = x.of[j] :: x.of.drop (j + 1)) := hide (List.drop_eq_getElem_cons hjl)
                        generalize x.of[j] = p at o0 HE
                        subst e
                        have hz3 : (0 : Int) ≤ j := by omega
                        have hz4 : (j : Int) < x.of.length := by omega
                        go_wp2_with fail
                        refine (HFF.out p).mono ?_
                        rintro e V4 ⟨rfl, h4⟩
                        subst V4
                        cases hβ : hasI fs p with
                        | false =>
                          have hr : r = false := by rw [HJ.out, HE.out, List.all_cons, hβ]; rfl
                          subst hr
                          go_wp2_with fail
                          go_ret
                          exact ⟨rfl, hb5⟩
                        | true =>
                          have HJ2 : Hid (r = ((x.of.drop (j + 1)).all (hasI fs) && (h.tables.drop (k + 1)).all (tblOk h.items))) := hide (by rw [HJ.out, HE.out, List.all_cons, hβ, Bool.true_and])
                          go_wp2_with fail
                          go_roundw
                          case rel => first | exact ⟨j + 1, hjl, by go_num, HJ2, trivial⟩ | exact ⟨j + 1, hjl, by go_num, HJ2, rfl⟩ | exact ⟨⟨j + 1, hjl, by go_num, HJ2, trivial⟩, rfl⟩ | exact ⟨⟨j + 1, hjl, by go_num, HJ2, rfl⟩, rfl⟩ | ((repeat apply Exists.intro); refine ⟨⟨j + 1, hjl, ?eqj, HJ2, rfl⟩, rfl⟩; go_num)
                          case measure => simp [intOf]; omega
                      · have HK2 : Hid (r = (h.tables.drop (k + 1)).all (tblOk h.items)) := hide (by rw [HJ.out, List.drop_of_length_le (by omega)]; rfl)
                        go_wp2_with fail
                        go_roundw
                        case rel => first | exact ⟨k + 1, hlt, by go_num, HK2, HX5, hide hb5⟩ | exact ⟨⟨k + 1, hlt, by go_num, HK2, HX5, hide hb5⟩, rfl⟩ | ((repeat apply Exists.intro); refine ⟨⟨k + 1, hlt, ?eqk, HK2, HX5, hide hb5⟩, rfl⟩; go_num)
                        case measure => simp [intOf]; omega
                  · have hne : ((x.of.length : Int) != (x.dishes.length : Int)) = true := by simpa using hm
                    have hr : r = false := by rw [HK.out, HD.out, List.all_cons]; unfold tblOk; rw [HG1.out, HG2.out, decide_eq_false hm]; rfl
                    subst hr
                    clear hm
                    go_wp2_with fail
                    go_ret
                    exact ⟨rfl, hb4⟩
            · have hr : r = true := by rw [HK.out, List.drop_of_length_le (by omega)]; rfl
              subst hr
              go_wp2_with fail
              go_ret
              exact ⟨rfl, HB.out⟩
        · have hn2 : (4 : Int) < h.tables.length := by omega
          have hr : r = false := by rw [← HR.out]; unfold houseOk; rw [HBB.out.1, HBB.out.2.1, HBB.out.2.2, decide_eq_false hn]; rfl
          subst hr
          go_wp2_with fail
          go_ret
          exact ⟨rfl, hb2⟩
end Go.Proofs.YtmepnilnlpoodaaDoor
