/- Contract of MakeRun of the reference model.
   Conditions: all lists have at most 1048576 elements. -/
import Derived.Test.YteloapholoechaaMakeRunI
namespace Go.Proofs.Yteloapholoechaa
open Go.RowKit Go.ChangeShapes Go.WideShapes Go.ChangeAt Go.Deep

theorem makeRun_no4 {l : List Item} {stock rs : List Int} (h : mkGo rs 0 l stock = none) : makeRunL l stock rs = none := by
  unfold makeRunL
  split
  · exact h
  · rfl
theorem rangeOk_of {most : Int} {xs : List Int} (h : ∀ (i : Nat) (x : Int), xs[i]? = some x → 0 ≤ x ∧ x ≤ most) : rangeOk most xs = true := by
  unfold rangeOk
  rw [List.all_eq_true]
  intro x hx
  obtain ⟨i, hi⟩ := List.getElem?_of_mem hx
  exact inR_iff.2 (h i x hi)
theorem emptyLit (w : World) (lo : Nat) (h : lo ≤ w.heap.size) : IntSl (w.alloc (.cells #[] 3)) lo (.slice (some ⟨w.heap.size, 0, none⟩) 0 0) [] := World.ownsRow_lit w #[] 0 h (by unfold maxLen; omega) rfl

set_option maxRecDepth 100000 in
set_option maxHeartbeats 8000000 in
theorem specMakeRun_any (A B D D' : Option Addr) (c d e f n' : Nat) (l : List Item) (stock rs : List Int) (w : World) (hA : ItemsAt w A l) (hl : l.length ≤ 1048576) (hp : ∀ x ∈ l, x.parts.length ≤ 1048576)
    (hX : IntsAt w B stock) (hx : stock.length ≤ 1048576) (hR : IntsAt w D rs) (hr : rs.length ≤ 1048576) :
    Calls Try.prog 18 #[.slice A l.length c, .slice B stock.length d, .agg #[.slice D rs.length e, .slice D' n' f]] w (MadeRun l stock rs w) := by
  have HP := hide hp
  clear hp
  cases hI : itemsOk l with
  | false =>
    have HI := hide hI
    have HE := hide (makeRun_no1 (stock := stock) (rs := rs) hI)
    clear hI
    go_enter Try.func18, Try.ntmps18
    go_wp2_with fail
    refine (specItemsValid_any _ _ _ _ (hA.below (by go_grown)) hl HP.out).mono ?_
    rintro e w1 ⟨rfl, hB⟩
    rw [HI.out]
    have hb : Below w.heap.size w w1 := Below.trans (by go_grown) (hB.mono (by simp))
    go_wp2_with fail
    refine bodyPost_ret (results_tmp2 rfl _ _ _) rfl ⟨_, by rw [HE.out]; rfl, by rw [HE.out]; exact emptyLit w1 _ hb.size, hb.alloc hb.size _⟩
  | true =>
    cases hm : amtOk l stock with
    | false =>
      have HI := hide hI
      have HM := hide hm
      have HE := hide (makeRun_no2 (rs := rs) hm)
      clear hI hm
      go_enter Try.func18, Try.ntmps18
      go_wp2_with fail
      refine (specItemsValid_any _ _ _ _ (hA.below (by go_grown)) hl HP.out).mono ?_
      rintro e w1 ⟨rfl, hB⟩
      rw [HI.out]
      have hb : Below w.heap.size w w1 := Below.trans (by go_grown) (hB.mono (by simp))
      go_wp2_with fail
      refine (l1Amounts_any _ _ _ _ _ _ _ (hX.below hb) hx).mono ?_
      rintro e w2 ⟨rfl, rfl⟩
      rw [show (decide ((stock.length : Int) = l.length) && rangeOk 50 stock) = false from HM.out]
      go_wp2_with fail
      refine bodyPost_ret (results_tmp2 rfl _ _ _) rfl ⟨_, by rw [HE.out]; rfl, by rw [HE.out]; exact emptyLit w1 _ hb.size, hb.alloc hb.size _⟩
    | true =>
      by_cases hq : (rs.length : Int) = l.length
      · have HI := hide hI
        have HM := hide hm
        have hqb : ((rs.length : Int) != l.length) = false := by simp [hq]
        have HIT0 := hide hI
        obtain ⟨hsl, hsr⟩ := amtOk_at hm
        have hl6 := itemsOk_len hI
        have hs1 : stock.length ≤ l.length := by omega
        have hs2 : l.length ≤ stock.length := by omega
        have hr1 : l.length ≤ rs.length := by omega
        have hr2 : rs.length ≤ l.length := by omega
        have HYES : Hid (rangeOk 9999999 rs = true → makeRunL l stock rs = mkGo rs 0 l stock) := hide (fun h => makeRun_go hI hm (by unfold runsOk; rw [decide_eq_true hq, h]; rfl))
        have HNOT : Hid (rangeOk 9999999 rs = false → makeRunL l stock rs = none) := hide (fun h => makeRun_no3 (by unfold runsOk; rw [h, Bool.and_false]))
        have HN0 : Hid (NowIn (50 + 60000000 * ((0 : Nat) : Int)) stock.length stock) := hide ⟨rfl, fun x hx => by obtain ⟨i, hi⟩ := List.getElem?_of_mem hx; have := rangeOk_at hsr hi; omega⟩
        clear hI hm hq hsl hsr
        go_enter Try.func18, Try.ntmps18
        go_wp2_with fail
        refine (specItemsValid_any _ _ _ _ (hA.below (by go_grown)) hl HP.out).mono ?_
        rintro e w3 ⟨rfl, hB⟩
        rw [HI.out]
        have hb3 : Below w.heap.size w w3 := Below.trans (by go_grown) (hB.mono (by simp))
        obtain ⟨he1, he2, he3⟩ : w3.cell? ⟨w.heap.size, 0, none⟩ = some (.slice D rs.length e) ∧ w3.cell? ⟨w.heap.size, 1, none⟩ = some (.slice D' n' f) ∧ w.heap.size < w3.heap.size := keepBox (by simp) hB (by simp)
        have HBX := hide (And.intro he1 he3)
        go_wp2_with fail
        refine (l1Amounts_any _ _ _ _ _ _ _ (hX.below hb3) hx).mono ?_
        rintro e w2 ⟨rfl, rfl⟩
        rw [show (decide ((stock.length : Int) = l.length) && rangeOk 50 stock) = true from HM.out]
        rcases Nat.eq_zero_or_pos l.length with hl0 | hl0
        · have hln := List.eq_nil_of_length_eq_zero hl0
          have hsn := List.eq_nil_of_length_eq_zero (show stock.length = 0 by omega)
          have hrn := List.eq_nil_of_length_eq_zero (show rs.length = 0 by omega)
          subst hln hsn hrn
          have HE2 : Hid (makeRunL [] [] [] = some []) := hide (by rw [HYES.out (by rfl)]; rfl)
          clear HYES HNOT HN0
          cases B with
          | none =>
            go_wp2_with fail
            go_loopw [9] (fun i wr => i = .int .i64 0 ∧ w3.alloc (.cells #[] 3) = wr) (fun _ _ => 0)
            case atStart => exact ⟨rfl, rfl⟩
            case round =>
              obtain ⟨rfl, rfl⟩ := hrel
              go_wp2_with fail
              refine bodyPost_ret (results_tmp2 rfl _ _ _) rfl ⟨_, by rw [HE2.out]; rfl, by rw [HE2.out]; exact emptyLit w3 _ hb3.size, hb3.alloc hb3.size _⟩
          | some ad =>
            go_wp2_with fail
            go_loopw [9] (fun i wr => i = .int .i64 0 ∧ w3.alloc (.cells #[] 3) = wr) (fun _ _ => 0)
            case atStart => exact ⟨rfl, rfl⟩
            case round =>
              obtain ⟨rfl, rfl⟩ := hrel
              go_wp2_with fail
              refine bodyPost_ret (results_tmp2 rfl _ _ _) rfl ⟨_, by rw [HE2.out]; rfl, by rw [HE2.out]; exact emptyLit w3 _ hb3.size, hb3.alloc hb3.size _⟩
        · obtain ⟨x0, hx0⟩ : ∃ x0, stock[0]? = some x0 := ⟨_, List.getElem?_eq_getElem (by omega)⟩
          obtain ⟨bS, oS, rfl, -, -⟩ := hX 0 x0 hx0
          clear hx0 x0
          obtain ⟨n, HNL⟩ : ∃ n, Hid (stock.length = n) := ⟨_, hide rfl⟩
          have hX3 := hide ((hX.below hb3).below (w' := w3.alloc (.cells #[] 3)) (by go_grown))
          have hn0 : 0 < n := by rw [← HNL.out]; omega
          have hn1 : l.length ≤ n := by rw [← HNL.out]; omega
          have hn2 : n ≤ l.length := by rw [← HNL.out]; omega
          have HSN := hide (emptyLit w3 w3.heap.size (Nat.le_refl _))
          have HE0 : Hid (mkGo rs 0 l stock = mkGo rs 0 (l.drop 0) stock) := hide rfl
          rw [HNL.out] at HN0 ⊢
          go_wp2_with (at_builtin; refine wpList_spreadN_int rfl _ _ rfl w3.heap.size (.slice (some ⟨w3.heap.size, 0, none⟩) 0 0) [] rfl HSN.out ⟨bS, oS, none⟩ n d hn0 stock HNL.out rfl hX3.out (by simp; omega) (by simp) ?_; intro G cap w4 hown hgrow; have hB4 : Below w3.heap.size w3 w4 := (Below.alloc (Below.refl _ _) (Nat.le_refl _) _).grown hgrow (by simp) (fun j hj => by have hj : some w3.heap.size = some j := hj; injection hj with hj; omega); have HO4 : Hid (IntSl w4 w3.heap.size (.slice (some ⟨G, 0, none⟩) n cap) stock) := hide (by rw [List.length_nil, Nat.zero_add] at hown; exact hown); clear hown hgrow; simp only [List.length_nil, Nat.zero_add])
          have hG := World.ownsRow.lt HO4.out G rfl
          have hGlo := hG.1
          clear hG hX3 HSN he1 he2 he3 hB
          go_loopw [9] (fun i wr => ∃ (k : Nat) (now : List Int), k ≤ l.length ∧ i = .int .i64 k ∧ Hid (mkGo rs 0 l stock = mkGo rs k (l.drop k) now) ∧ Hid (NowIn (50 + 60000000 * (k : Int)) n now) ∧ Hid (∀ i x, i < k → rs[i]? = some x → 0 ≤ x ∧ x ≤ 9999999) ∧ IntSl wr w3.heap.size (.slice (some ⟨G, 0, none⟩) n cap) now ∧ Below w3.heap.size w3 wr) (fun i _ => l.length - (intOf i).toNat)
          case atStart => exact ⟨0, stock, Nat.zero_le _, rfl, HE0, HN0, hide (fun i x h => absurd h (by omega)), HO4.out, hB4⟩
          case round =>
            clear HO4 hB4 HN0 HE0
            obtain ⟨k, now, hk, rfl, HE, HN, HRG, hO, hbr⟩ := hrel
            have hsz := hbr.size
            by_cases hlt : k < l.length
            · obtain ⟨bl, offl, Al, cl, rfl, hbl, hi1, hi2, hi3, hpa⟩ := (hA.below hb3) k l[k] (List.getElem?_eq_getElem hlt)
              have HCI : Hid (∀ W, Below w3.heap.size w3 W → W.cell? ⟨bl, offl + k * 3, none⟩ = some (.int .i64 l[k].yield) ∧ W.cell? ⟨bl, offl + k * 3 + 1, none⟩ = some (.slice Al l[k].parts.length cl)) := hide (fun W hW => ⟨(hW.cell hbl).trans hi1, (hW.cell hbl).trans hi2⟩)
              have hit := itemsOk_at HIT0.out (List.getElem?_eq_getElem hlt)
              have hpl := HP.out l[k] (List.getElem_mem hlt)
              have HDR : Hid (l.drop k = l[k] :: l.drop (k + 1)) := hide (List.drop_eq_getElem_cons hlt)
              generalize l[k] = x at *
              obtain ⟨r, hr8⟩ : ∃ r, rs[k]? = some r := ⟨_, List.getElem?_eq_getElem (by omega)⟩
              have HR8 := hide hr8
              have HRK : Hid (rs.getD k 0 = r) := hide (by rw [List.getD_eq_getElem?_getD, hr8]; rfl)
              obtain ⟨bD, oD, rfl, hbD, hcr⟩ := hR k r hr8
              have HCR : Hid (∀ W, Below w3.heap.size w3 W → W.cell? ⟨bD, oD + k, none⟩ = some (.int .i64 r) ∧ W.cell? ⟨w.heap.size, 0, none⟩ = some (.slice (some ⟨bD, oD, none⟩) rs.length e)) := hide (fun W hW => ⟨((next hb3 hW).cell hbD).trans hcr, (hW.cell HBX.out.2).trans HBX.out.1⟩)
              have hz : (0 : Int) ≤ k := by omega
              have hz2 : (k : Int) < l.length := by omega
              have hz3 : (k : Int) < rs.length := by omega
              have hz4 : (k : Int) < n := by omega
              have HIT := hide hit
              have hy0 : 0 ≤ x.yield := hit.2.2.1
              have hy1 : x.yield ≤ 6 := hit.2.2.2.1
              have hp3 : x.parts.length ≤ 3 := hit.2.2.2.2.1
              have HPA : Hid (∀ W, Below w3.heap.size w3 W → PartsAt W Al x.parts) := hide (fun W hW => hpa.below hW)
              have HO := hide hO
              have HBR := hide hbr
              have hc3 := (HCR.out _ HBR.out).1
              have hc4 := (HCR.out _ HBR.out).2
              obtain ⟨bb, HBB⟩ : ∃ bb, Hid (inR r 0 9999999 = bb) := ⟨_, hide rfl⟩
              clear hit hcr hr8 hpa hO hbr hi1 hi2 hi3
              go_wp2_with fail
              refine (l1In_is _ _ _ _ HBB _).mono ?_
              rintro e7 w7 ⟨rfl, rfl⟩
              cases bb with
              | false =>
                have HNO : Hid (makeRunL l stock rs = none) := hide (HNOT.out (by
                  cases h : rangeOk 9999999 rs with
                  | false => rfl
                  | true =>
                    have := rangeOk_at h HR8.out
                    rw [inR_iff.2 this] at HBB
                    exact absurd HBB.out (by decide)))
                go_wp2_with fail
                refine bodyPost_ret (results_tmp2 rfl _ _ _) rfl ⟨_, by rw [HNO.out]; rfl, by rw [HNO.out]; exact emptyLit _ _ (Nat.le_trans hb3.size HBR.out.size), (next hb3 HBR.out).alloc (next hb3 HBR.out).size _⟩
              | true =>
                have hrb := inR_iff.1 HBB.out
                have hrb0 := hrb.1
                have hrb1 := hrb.2
                clear hc3 hc4 hrb
                go_wp2_with fail
                go_loopw [10] (fun i wr2 => ∃ (j : Nat) (nw : List Int), j ≤ x.parts.length ∧ i = .int .i64 j ∧ Hid (mkParts r x.parts now = mkParts r (x.parts.drop j) nw) ∧ Hid (NowIn (50 + 60000000 * (k : Int)) n nw) ∧ IntSl wr2 w3.heap.size (.slice (some ⟨G, 0, none⟩) n cap) nw ∧ Below w3.heap.size w3 wr2) (fun i _ => x.parts.length - (intOf i).toNat)
                case atStart => exact ⟨0, now, Nat.zero_le _, rfl, hide rfl, HN, HO.out, HBR.out⟩
                case round =>
                  clear HN HO HBR
                  obtain ⟨j, nw, hj, rfl, HMP, HN2, hO2, hb2r⟩ := hrel
                  have HO2 := hide hO2
                  have HBR2 := hide hb2r
                  have hG2 := (World.ownsRow.lt HO2.out G rfl).2
                  have hci2 := (HCI.out _ HBR2.out).2
                  clear hO2 hb2r
                  by_cases hjl : j < x.parts.length
                  · obtain ⟨b5, o5, rfl, hlt5, h5, h6⟩ := (HPA.out _ HBR2.out) j x.parts[j] (List.getElem?_eq_getElem hjl)
                    have hpb := HIT.out.2.2.2.2.2.2 _ (List.getElem_mem hjl)
                    have HDJ : Hid (x.parts.drop j = x.parts[j] :: x.parts.drop (j + 1)) := hide (List.drop_eq_getElem_cons hjl)
                    generalize x.parts[j] = p at *
                    obtain ⟨o, ho⟩ : ∃ o : Nat, p.of = o := ⟨p.of.toNat, by omega⟩
                    have hoN : p.of.toNat = o := by omega
                    have hok : o < k := by omega
                    obtain ⟨q, hq1, hq2, hq3, hq4⟩ := HN2.out.at (show o < n by omega)
                    obtain ⟨mm, HMM⟩ : ∃ mm, Hid (p.many * r = mm) := ⟨_, hide rfl⟩
                    have hmr := mul6_range (y := p.many) (r := r) (B := 9999999) (by omega) hpb.2.2.2 hrb0 hrb1
                    rw [Int.mul_comm, HMM.out] at hmr
                    have hm0 : 0 ≤ mm := hmr.1
                    have hm1 : mm ≤ 59999994 := hmr.2
                    have hw1 : IntKind.i64.wrap (r * p.many) = mm := by rw [Int.mul_comm, HMM.out]; exact IntWalk.i64_in _ (by omega)
                    have hw2 : IntKind.i64.wrap (q - mm) = q - mm := IntWalk.i64_in _ (by omega)
                    have HST : Hid (nw.getD p.of.toNat 0 - p.many * r = q - mm) := hide (by rw [hoN, hq2, HMM.out])
                    have HQ1 := hide hq1
                    have ho0 : (0 : Int) ≤ o := by omega
                    have ho1 : (o : Int) < n := by omega
                    have hj0 : (0 : Int) ≤ j := by omega
                    have hj1 : (j : Int) < x.parts.length := by omega
                    rw [ho] at h5
                    clear hpb hmr hq1 hq2
                    go_wp2_with fail
                    obtain ⟨w9, hW9⟩ : ∃ w9, wr.alloc (.cells #[.int .i64 (o : Int), .int .i64 p.many] 55) = w9 := ⟨_, rfl⟩
                    have HO9 : Hid (IntSl w9 w3.heap.size (.slice (some ⟨G, 0, none⟩) n cap) nw) := hide (by rw [← hW9]; exact World.ownsRow.alloc HO2.out _)
                    have HBR9 : Hid (Below w3.heap.size w3 w9) := hide (by rw [← hW9]; exact HBR2.out.alloc HBR2.out.size _)
                    have HPB9 : Hid (w9.heap[wr.heap.size]? = some (.cells #[.int .i64 (o : Int), .int .i64 p.many] 55 (0, 0))) := hide (by rw [← hW9]; exact heap_alloc_new wr _)
                    have hXp := heap_ltK HPB9.out
                    have hc1 : w9.cell? ⟨wr.heap.size, 0, none⟩ = some (.int .i64 (o : Int)) := by rw [cell_of_row w9 _ 0 _ _ _ HPB9.out]; rfl
                    have hc2 : w9.cell? ⟨wr.heap.size, 1, none⟩ = some (.int .i64 p.many) := by rw [cell_of_row w9 _ 1 _ _ _ HPB9.out]; rfl
                    have hc3 := (HCR.out _ HBR9.out).1
                    have hc4 := (HCR.out _ HBR9.out).2
                    have hc5 := IntSl.cellAt HO9.out HQ1.out
                    have hf5 := IntSl.frozenAt HO9.out o
                    rw [hW9]
                    clear hW9 h5 h6 hci2
                    refine still_tail_drew 18 (by kernel_rfl) (by kernel_rfl) ?_
                    simp only [List.take_succ_cons, List.take_zero, List.drop_succ_cons, List.drop_zero]
                    repeat still_step
                    refine wpStill_nil ?_
                    have HO10 : Hid (IntSl (w9.setCell ⟨G, o, none⟩ (.int .i64 (q - mm))).drew w3.heap.size (.slice (some ⟨G, 0, none⟩) n cap) (nw.set o (q - mm))) := hide (IntSl.store HO9.out o (q - mm))
                    have HBR10 : Hid (Below w3.heap.size w3 (w9.setCell ⟨G, o, none⟩ (.int .i64 (q - mm))).drew) := hide (HBR9.out.grown (IntSl.grownSet HO9.out o (q - mm)) HBR9.out.size (fun j hj => by injection hj with hj; omega)).drew
                    by_cases hv : q - mm < 0
                    · have HNO : Hid (makeRunL l stock rs = none) := hide (makeRun_no4 (mkGo_none (HE.out.trans (by rw [HDR.out])) (by rw [HRK.out]; exact mkParts_none (HMP.out.trans (by rw [HDJ.out])) (by rw [HST.out]; exact hv))))
                      go_wp2_with fail
                      refine bodyPost_ret (results_tmp2 rfl _ _ _) rfl ⟨.slice (some ⟨w9.heap.size, 0, none⟩) 0 0, by rw [HNO.out]; rfl, by rw [HNO.out]; have h9 := IntSl.drew (emptyLit (w9.setCell ⟨G, o, none⟩ (.int .i64 (q - mm))) _ (next hb3 HBR10.out).size); rw [show (w9.setCell ⟨G, o, none⟩ (.int .i64 (q - mm))).heap.size = w9.heap.size from by simp] at h9; exact h9, (next hb3 HBR10.out).alloc (next hb3 HBR10.out).size _⟩
                    · have hvn : 0 ≤ q - mm := by omega
                      have HMP2 : Hid (mkParts r x.parts now = mkParts r (x.parts.drop (j + 1)) (nw.set o (q - mm))) := hide (by
                        have := mkParts_some (HMP.out.trans (by rw [HDJ.out])) (by rw [HST.out]; exact hv)
                        rwa [HST.out, hoN] at this)
                      have HN10 : Hid (NowIn (50 + 60000000 * (k : Int)) n (nw.set o (q - mm))) := hide (HN2.out.set o hvn (by omega))
                      go_wp2_with fail
                      go_roundw
                      case rel => exact ⟨j + 1, _, hjl, by go_num, HMP2, HN10, HO10.out, HBR10.out⟩
                      case measure => simp [intOf]; omega
                  · obtain rfl : j = x.parts.length := by omega
                    have hz9 : ¬ ((x.parts.length : Nat) : Int) < x.parts.length := by omega
                    have HPS : Hid (mkParts (rs.getD k 0) x.parts now = some nw) := hide (by rw [HRK.out, HMP.out, List.drop_length]; rfl)
                    obtain ⟨q, hq1, hq2, hq3, hq4⟩ := HN2.out.at (show k < n by omega)
                    obtain ⟨M, HM2⟩ : ∃ M, Hid (madeI x.yield r = M) := ⟨_, hide rfl⟩
                    have hmr := madeI_range hy0 hy1 hrb0 hrb1
                    rw [HM2.out] at hmr
                    have hm0 : 0 ≤ M := hmr.1
                    have hm1 : M ≤ 59999994 := hmr.2
                    obtain ⟨mx, hmx⟩ : ∃ mx, max x.yield 1 = mx := ⟨_, rfl⟩
                    have hmx2 : (if x.yield < 1 then (1 : Int) else x.yield) = mx := by split <;> omega
                    have hmx3 : (if 1 < x.yield then x.yield else (1 : Int)) = mx := by split <;> omega
                    have hmx4 : max (1 : Int) x.yield = mx := by omega
                    have hw1 : IntKind.i64.wrap (r * mx) = M := by rw [← hmx, madeI_max hy0, HM2.out]; exact IntWalk.i64_in _ (by omega)
                    have hw2 : IntKind.i64.wrap (q + M) = q + M := IntWalk.i64_in _ (by omega)
                    have HQ1 := hide hq1
                    have HE2 : Hid (mkGo rs 0 l stock = mkGo rs (k + 1) (l.drop (k + 1)) (nw.set k (q + M))) := hide (by
                      have := mkGo_some (HE.out.trans (by rw [HDR.out])) HPS.out
                      rwa [hq2, HRK.out, HM2.out] at this)
                    have HN3 : Hid (NowIn (50 + 60000000 * ((k + 1 : Nat) : Int)) n (nw.set k (q + M))) := hide ((HN2.out.mono (by omega)).set k (by omega) (by omega))
                    have HRG2 : Hid (∀ i x, i < k + 1 → rs[i]? = some x → 0 ≤ x ∧ x ≤ 9999999) := hide (fun i x hi hx => by
                      by_cases e : i < k
                      · exact HRG.out i x e hx
                      · obtain rfl : i = k := by omega
                        rw [HR8.out] at hx
                        injection hx with hx
                        omega)
                    have HO5 : Hid (IntSl (wr.setCell ⟨G, k, none⟩ (.int .i64 (q + M))).drew w3.heap.size (.slice (some ⟨G, 0, none⟩) n cap) (nw.set k (q + M))) := hide (IntSl.store HO2.out k (q + M))
                    have HB5 : Hid (Below w3.heap.size w3 (wr.setCell ⟨G, k, none⟩ (.int .i64 (q + M))).drew) := hide (HBR2.out.grown (IntSl.grownSet HO2.out k (q + M)) HBR2.out.size (fun j hj => by injection hj with hj; omega)).drew
                    have hci1 := (HCI.out _ HBR2.out).1
                    have hc3 := (HCR.out _ HBR2.out).1
                    have hc4 := (HCR.out _ HBR2.out).2
                    have hc5 := IntSl.cellAt HO2.out HQ1.out
                    have hf5 := IntSl.frozenAt HO2.out k
                    clear hmr hq1 hq2
                    go_wp2_with fail
                    refine still_tail_drew 20 (by kernel_rfl) (by kernel_rfl) ?_
                    simp only [List.take_succ_cons, List.take_zero, List.drop_succ_cons, List.drop_zero]
                    repeat still_step
                    refine wpStill_nil ?_
                    go_wp2_with fail
                    go_roundw
                    case rel => exact ⟨k + 1, _, hlt, by go_num, HE2, HN3, HRG2, HO5.out, HB5.out⟩
                    case measure => simp [intOf]; omega
            · obtain rfl : k = l.length := by omega
              have hz2 : ¬ ((l.length : Nat) : Int) < l.length := by omega
              have HE3 : Hid (makeRunL l stock rs = some now) := hide (by
                rw [HYES.out (rangeOk_of (fun i x hi => HRG.out i x (by have := (List.getElem?_eq_some_iff.1 hi).1; omega) hi)), HE.out, List.drop_length]; rfl)
              go_wp2_with fail
              refine bodyPost_ret (results_tmp2 rfl _ _ _) rfl ⟨_, by rw [HE3.out]; rfl, by rw [HE3.out]; exact IntSl.mono hO hb3.size, next hb3 hbr⟩
      · have HI := hide hI
        have HM := hide hm
        have hqb : ((rs.length : Int) != l.length) = true := by simp [hq]
        have HE : Hid (makeRunL l stock rs = none) := hide (makeRun_no3 (by unfold runsOk; rw [decide_eq_false hq]; rfl))
        clear hI hm hq
        go_enter Try.func18, Try.ntmps18
        go_wp2_with fail
        refine (specItemsValid_any _ _ _ _ (hA.below (by go_grown)) hl HP.out).mono ?_
        rintro e w3 ⟨rfl, hB⟩
        rw [HI.out]
        have hb3 : Below w.heap.size w w3 := Below.trans (by go_grown) (hB.mono (by simp))
        obtain ⟨he1, he2, he3⟩ : w3.cell? ⟨w.heap.size, 0, none⟩ = some (.slice D rs.length e) ∧ w3.cell? ⟨w.heap.size, 1, none⟩ = some (.slice D' n' f) ∧ w.heap.size < w3.heap.size := keepBox (by simp) hB (by simp)
        go_wp2_with fail
        refine (l1Amounts_any _ _ _ _ _ _ _ (hX.below hb3) hx).mono ?_
        rintro e w2 ⟨rfl, rfl⟩
        rw [show (decide ((stock.length : Int) = l.length) && rangeOk 50 stock) = true from HM.out]
        go_wp2_with fail
        refine bodyPost_ret (results_tmp2 rfl _ _ _) rfl ⟨_, by rw [HE.out]; rfl, by rw [HE.out]; exact emptyLit w3 _ hb3.size, hb3.alloc hb3.size _⟩
end Go.Proofs.Yteloapholoechaa
