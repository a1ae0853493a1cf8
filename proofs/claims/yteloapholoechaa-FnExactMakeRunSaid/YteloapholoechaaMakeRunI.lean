/- Contract of MakeRun of the program.
   Conditions: all lists have at most 1048576 elements. -/
import Derived.Test.YteloapholoechaaMakeMath
import Derived.Test.YteloapholoechaaSpreadN
import Derived.Test.YteloapholoechaaZeros
import Derived.Deep.RegionLaw
import Derived.Deep.DeepCutAuto
import Derived.StillTailTactics
namespace Go.Proofs.Yteloapholoechaa
open Go.RowKit Go.ChangeShapes Go.WideShapes Go.ChangeAt Go.Deep

/-- The answer of MakeRun: the stock after it, and whether nothing was short. -/
def MadeRun (l : List Item) (stock rs : List Int) (w : World) (e : Ending) (w' : World) : Prop := ∃ v, e = .returned (.tuple #[v, .bool (makeRunL l stock rs).isSome]) ∧ IntSl w' w.heap.size v ((makeRunL l stock rs).getD []) ∧ Below w.heap.size w w'

theorem heap_ltK {w : World} {b : Nat} {o : Obj} (h : w.heap[b]? = some o) : b < w.heap.size := (Array.getElem?_eq_some_iff.1 h).1

theorem MadeRun.no {l : List Item} {stock rs : List Int} {w w' : World} (h : makeRunL l stock rs = none) (hb : Below w.heap.size w w') : MadeRun l stock rs w (.returned (.tuple #[.slice none 0 0, .bool false])) w' :=
  ⟨.slice none 0 0, by rw [h]; rfl, by rw [h]; exact World.ownsRow_nil _ _ _ _, hb⟩

set_option maxRecDepth 100000 in
set_option maxHeartbeats 8000000 in
theorem implMakeRun_any (A B D D' : Option Addr) (c d e f n' : Nat) (l : List Item) (stock rs : List Int) (w : World) (hA : ItemsAt w A l) (hl : l.length ≤ 1048576) (hp : ∀ x ∈ l, x.parts.length ≤ 1048576)
    (hX : IntsAt w B stock) (hx : stock.length ≤ 1048576) (hR : IntsAt w D rs) (hr : rs.length ≤ 1048576) :
    Calls Try.prog 20 #[.slice A l.length c, .slice B stock.length d, .agg #[.slice D rs.length e, .slice D' n' f]] w (MadeRun l stock rs w) := by
  have HP := hide hp
  clear hp
  cases hI : itemsOk l with
  | false =>
    have HI := hide hI
    have HE := hide (makeRun_no1 (stock := stock) (rs := rs) hI)
    clear hI
    go_enter Try.func20, Try.ntmps20
    go_wp2_with fail
    refine (implItemsValid_any _ _ _ _ (hA.below (by go_grown)) hl HP.out).mono ?_
    rintro e w1 ⟨rfl, hB⟩
    rw [HI.out]
    have hb : Below w.heap.size w w1 := Below.trans (by go_grown) (hB.mono (by simp))
    go_wp2_with fail
    refine bodyPost_ret (results_tmp2 rfl _ _ _) rfl ⟨.slice none 0 0, by rw [HE.out]; rfl, by rw [HE.out]; exact World.ownsRow_nil _ _ _ _, hb⟩
  | true =>
    cases hm : amtOk l stock with
    | false =>
      have HI := hide hI
      have HM := hide hm
      have HE := hide (makeRun_no2 (rs := rs) hm)
      clear hI hm
      go_enter Try.func20, Try.ntmps20
      go_wp2_with fail
      refine (implItemsValid_any _ _ _ _ (hA.below (by go_grown)) hl HP.out).mono ?_
      rintro e w1 ⟨rfl, hB⟩
      rw [HI.out]
      have hb : Below w.heap.size w w1 := Below.trans (by go_grown) (hB.mono (by simp))
      go_wp2_with fail
      refine (allInRange_any _ _ _ _ _ _ (hX.below hb) hx).mono ?_
      rintro e w2 ⟨rfl, hB2⟩
      have hb2 := next hb hB2
      rw [show (decide ((stock.length : Int) = l.length) && rangeOk 50 stock) = false from HM.out]
      go_wp2_with fail
      refine bodyPost_ret (results_tmp2 rfl _ _ _) rfl ⟨.slice none 0 0, by rw [HE.out]; rfl, by rw [HE.out]; exact World.ownsRow_nil _ _ _ _, hb2⟩
    | true =>
      cases hq : runsOk l rs with
      | false =>
        have HI := hide hI
        have HM := hide hm
        have HQ := hide hq
        have HE := hide (makeRun_no3 (stock := stock) hq)
        clear hI hm hq
        go_enter Try.func20, Try.ntmps20
        go_wp2_with fail
        refine (implItemsValid_any _ _ _ _ (hA.below (by go_grown)) hl HP.out).mono ?_
        rintro e w1 ⟨rfl, hB⟩
        rw [HI.out]
        have hb : Below w.heap.size w w1 := Below.trans (by go_grown) (hB.mono (by simp))
        obtain ⟨hc1, hc2, hc3⟩ : w1.cell? ⟨w.heap.size, 0, none⟩ = some (.slice D rs.length e) ∧ w1.cell? ⟨w.heap.size, 1, none⟩ = some (.slice D' n' f) ∧ w.heap.size < w1.heap.size := keepBox (by simp) hB (by simp)
        go_wp2_with fail
        refine (allInRange_any _ _ _ _ _ _ (hX.below hb) hx).mono ?_
        rintro e w2 ⟨rfl, hB2⟩
        have hb2 := next hb hB2
        obtain ⟨hd1, hd2, hd3⟩ := keepBox (And.intro hc1 (And.intro hc2 hc3)) hB2 hc3
        rw [show (decide ((stock.length : Int) = l.length) && rangeOk 50 stock) = true from HM.out]
        clear hc1 hc2 hc3
        go_wp2_with fail
        refine (allInRange_any _ _ _ _ _ _ (hR.below hb2) hr).mono ?_
        rintro e w3 ⟨rfl, hB3⟩
        have hb3 := next hb2 hB3
        rw [show (decide ((rs.length : Int) = l.length) && rangeOk 9999999 rs) = false from HQ.out]
        go_wp2_with fail
        refine bodyPost_ret (results_tmp2 rfl _ _ _) rfl ⟨.slice none 0 0, by rw [HE.out]; rfl, by rw [HE.out]; exact World.ownsRow_nil _ _ _ _, hb3⟩
      | true =>
        have HI := hide hI
        have HM := hide hm
        have HQ := hide hq
        have HE := hide (makeRun_go hI hm hq)
        obtain ⟨hsl, hsr⟩ := amtOk_at hm
        obtain ⟨hrl, hrr⟩ := runsOk_at hq
        have HRR := hide hrr
        have hl6 := itemsOk_len hI
        have hs1 : stock.length ≤ l.length := by omega
        have hs2 : l.length ≤ stock.length := by omega
        have hr1 : l.length ≤ rs.length := by omega
        have HN0 : Hid (NowIn (50 + 60000000 * ((0 : Nat) : Int)) stock.length stock) := hide ⟨rfl, fun x hx => by obtain ⟨i, hi⟩ := List.getElem?_of_mem hx; have := rangeOk_at hsr hi; omega⟩
        clear hI hm hq hsl hsr hrl hrr
        go_enter Try.func20, Try.ntmps20
        go_wp2_with fail
        refine (implItemsValid_any _ _ _ _ (hA.below (by go_grown)) hl HP.out).mono ?_
        rintro e w1 ⟨rfl, hB⟩
        rw [HI.out]
        have hb : Below w.heap.size w w1 := Below.trans (by go_grown) (hB.mono (by simp))
        obtain ⟨hc1, hc2, hc3⟩ : w1.cell? ⟨w.heap.size, 0, none⟩ = some (.slice D rs.length e) ∧ w1.cell? ⟨w.heap.size, 1, none⟩ = some (.slice D' n' f) ∧ w.heap.size < w1.heap.size := keepBox (by simp) hB (by simp)
        go_wp2_with fail
        refine (allInRange_any _ _ _ _ _ _ (hX.below hb) hx).mono ?_
        rintro e w2 ⟨rfl, hB2⟩
        have hb2 := next hb hB2
        obtain ⟨hd1, hd2, hd3⟩ := keepBox (And.intro hc1 (And.intro hc2 hc3)) hB2 hc3
        rw [show (decide ((stock.length : Int) = l.length) && rangeOk 50 stock) = true from HM.out]
        clear hc1 hc2 hc3 hB hB2
        go_wp2_with fail
        refine (allInRange_any _ _ _ _ _ _ (hR.below hb2) hr).mono ?_
        rintro e w3 ⟨rfl, hB3⟩
        have hb3 := next hb2 hB3
        obtain ⟨he1, he2, he3⟩ := keepBox (And.intro hd1 (And.intro hd2 hd3)) hB3 hd3
        have HBX := hide (And.intro he1 he3)
        rw [show (decide ((rs.length : Int) = l.length) && rangeOk 9999999 rs) = true from HQ.out]
        clear hd1 hd2 hd3 he1 he2 he3 hB3
        rcases Nat.eq_zero_or_pos l.length with hl0 | hl0
        · have hln := List.eq_nil_of_length_eq_zero hl0
          have hsn := List.eq_nil_of_length_eq_zero (show stock.length = 0 by omega)
          subst hln hsn
          have HE2 : Hid (makeRunL [] [] rs = some []) := hide (by rw [HE.out]; rfl)
          clear HE HN0
          cases B with
          | none =>
            go_wp2_with fail
            go_loopw [35] (fun i wr => i = .int .i64 0 ∧ w3 = wr) (fun _ _ => 0)
            case atStart => exact ⟨rfl, rfl⟩
            case round =>
              obtain ⟨rfl, rfl⟩ := hrel
              go_wp2_with fail
              refine bodyPost_ret (results_tmp2 rfl _ _ _) rfl ⟨_, by rw [HE2.out]; rfl, by rw [HE2.out]; exact World.ownsRow_nil _ _ _ _, hb3⟩
          | some ad =>
            go_wp2_with fail
            go_loopw [35] (fun i wr => i = .int .i64 0 ∧ w3 = wr) (fun _ _ => 0)
            case atStart => exact ⟨rfl, rfl⟩
            case round =>
              obtain ⟨rfl, rfl⟩ := hrel
              go_wp2_with fail
              refine bodyPost_ret (results_tmp2 rfl _ _ _) rfl ⟨_, by rw [HE2.out]; rfl, by rw [HE2.out]; exact World.ownsRow_nil _ _ _ _, hb3⟩
        · obtain ⟨x0, hx0⟩ : ∃ x0, stock[0]? = some x0 := ⟨_, List.getElem?_eq_getElem (by omega)⟩
          obtain ⟨bS, oS, rfl, -, -⟩ := hX 0 x0 hx0
          clear hx0 x0
          obtain ⟨n, HNL⟩ : ∃ n, Hid (stock.length = n) := ⟨_, hide rfl⟩
          have hX3 := hide (hX.below hb3)
          have hn0 : 0 < n := by rw [← HNL.out]; omega
          have hn1 : l.length ≤ n := by rw [← HNL.out]; omega
          have hn2 : n ≤ l.length := by rw [← HNL.out]; omega
          have HSN : Hid (IntSl w3 w3.heap.size (.slice none 0 0) []) := hide (World.ownsRow_nil _ _ _ _)
          rw [HNL.out] at HN0 ⊢
          go_wp2_with (at_builtin; refine wpList_spreadN_int rfl _ _ rfl w3.heap.size (.slice none 0 0) [] rfl HSN.out ⟨bS, oS, none⟩ n d hn0 stock HNL.out rfl hX3.out (by simp; omega) (Nat.le_refl _) ?_; intro G cap w4 hown hgrow; have hB4 : Below w3.heap.size w3 w4 := (Below.refl _ _).grown hgrow (Nat.le_refl _) (fun j hj => by have hj : (none : Option Nat) = some j := hj; cases hj); have HO4 : Hid (IntSl w4 w3.heap.size (.slice (some ⟨G, 0, none⟩) n cap) stock) := hide (by rw [List.length_nil, Nat.zero_add] at hown; exact hown); clear hown hgrow; simp only [List.length_nil, Nat.zero_add])
          have hG := World.ownsRow.lt HO4.out G rfl
          have hGlo := hG.1
          clear hG hX3 HSN
          go_loopw [35] (fun i wr => ∃ (k : Nat) (now : List Int), k ≤ l.length ∧ i = .int .i64 k ∧ Hid (makeRunL l stock rs = mkGo rs k (l.drop k) now) ∧ Hid (NowIn (50 + 60000000 * (k : Int)) n now) ∧ IntSl wr w3.heap.size (.slice (some ⟨G, 0, none⟩) n cap) now ∧ Below w3.heap.size w3 wr) (fun i _ => l.length - (intOf i).toNat)
          case atStart => exact ⟨0, stock, Nat.zero_le _, rfl, HE, HN0, HO4.out, hB4⟩
          case round =>
            clear HO4 hB4 HN0 HE
            obtain ⟨k, now, hk, rfl, HE, HN, hO, hbr⟩ := hrel
            have hsz := hbr.size
            by_cases hlt : k < l.length
            · obtain ⟨bl, offl, Al, cl, rfl, hbl, hi1, hi2, hi3, hpa⟩ := (hA.below hb3) k l[k] (List.getElem?_eq_getElem hlt)
              have hj1 := (hbr.cell hbl).trans hi1
              have hj2 := (hbr.cell hbl).trans hi2
              have hj3 := (hbr.cell hbl).trans hi3
              have hit := itemsOk_at HI.out (List.getElem?_eq_getElem hlt)
              have hpl := HP.out l[k] (List.getElem_mem hlt)
              have HDR : Hid (l.drop k = l[k] :: l.drop (k + 1)) := hide (List.drop_eq_getElem_cons hlt)
              generalize l[k] = x at *
              obtain ⟨r, hr8⟩ : ∃ r, rs[k]? = some r := ⟨_, List.getElem?_eq_getElem (by omega)⟩
              have hrb := rangeOk_at HRR.out hr8
              have hrb0 := hrb.1
              have hrb1 := hrb.2
              have HRK : Hid (rs.getD k 0 = r) := hide (by rw [List.getD_eq_getElem?_getD, hr8]; rfl)
              obtain ⟨bD, oD, rfl, hbD, hcr⟩ := hR k r hr8
              have HCR : Hid (∀ W, Below w3.heap.size w3 W → W.cell? ⟨bD, oD + k, none⟩ = some (.int .i64 r) ∧ W.cell? ⟨w.heap.size, 0, none⟩ = some (.slice (some ⟨bD, oD, none⟩) rs.length e)) := hide (fun W hW => ⟨((next hb3 hW).cell hbD).trans hcr, (hW.cell HBX.out.2).trans HBX.out.1⟩)
              have hz : (0 : Int) ≤ k := by omega
              have hz2 : (k : Int) < l.length := by omega
              have hz3 : (k : Int) < rs.length := by omega
              have hz4 : (k : Int) < n := by omega
              have HIT := hide hit
              have hy0 : 0 ≤ x.yield := hit.2.2.1
              have hy1 : x.yield ≤ 6 := hit.2.2.2.1
              have hp3 : x.parts.length ≤ 3 := hit.2.2.2.2.1
              have HPA : Hid (∀ W, Below w3.heap.size w3 W → PartsAt W Al x.parts) := hide (fun W hW => hpa.below hW)
              have HO := hide hO
              have HBR := hide hbr
              have hGlt := (World.ownsRow.lt HO.out G rfl).2
              clear hit hrb hcr hr8 hpa hO hbr hi1 hi2 hi3
              go_wp2_with fail
              have HOA : Hid (IntSl (wr.alloc (.cells #[.int .i64 x.yield, .slice Al x.parts.length cl, .int .i64 x.marks] 53)) w3.heap.size (.slice (some ⟨G, 0, none⟩) n cap) now) := hide (World.ownsRow.alloc HO.out _)
              have HBA : Hid (Below w3.heap.size w3 (wr.alloc (.cells #[.int .i64 x.yield, .slice Al x.parts.length cl, .int .i64 x.marks] 53))) := hide (HBR.out.alloc HBR.out.size _)
              have HHA : Hid ((wr.alloc (.cells #[.int .i64 x.yield, .slice Al x.parts.length cl, .int .i64 x.marks] 53)).heap[wr.heap.size]? = some (.cells #[.int .i64 x.yield, .slice Al x.parts.length cl, .int .i64 x.marks] 53 (0, 0))) := hide (heap_alloc_new wr _)
              clear hj1 hj2 hj3
              generalize wr.heap.size = X at *
              go_loopw [43] (fun i wr2 => ∃ (j : Nat) (nw : List Int), j ≤ x.parts.length ∧ i = .int .i64 j ∧ Hid (mkParts r x.parts now = mkParts r (x.parts.drop j) nw) ∧ Hid (NowIn (50 + 60000000 * (k : Int)) n nw) ∧ IntSl wr2 w3.heap.size (.slice (some ⟨G, 0, none⟩) n cap) nw ∧ Below w3.heap.size w3 wr2 ∧ wr2.heap[X]? = some (.cells #[.int .i64 x.yield, .slice Al x.parts.length cl, .int .i64 x.marks] 53 (0, 0))) (fun i _ => x.parts.length - (intOf i).toNat)
              case atStart => exact ⟨0, now, Nat.zero_le _, rfl, hide rfl, HN, HOA.out, HBA.out, HHA.out⟩
              case round =>
                clear HOA HBA HHA HN HO
                obtain ⟨j, nw, hj, rfl, HMP, HN2, hO2, hb2r, hbx⟩ := hrel
                have HBX2 := hide hbx
                have HO2 := hide hO2
                have HBR2 := hide hb2r
                have hG2 := (World.ownsRow.lt HO2.out G rfl).2
                have hX2 := heap_ltK hbx
                clear hbx hO2 hb2r
                by_cases hjl : j < x.parts.length
                · obtain ⟨b5, o5, rfl, hlt5, h5, h6⟩ := (HPA.out _ HBR2.out) j x.parts[j] (List.getElem?_eq_getElem hjl)
                  have hpb := HIT.out.2.2.2.2.2.2 _ (List.getElem_mem hjl)
                  have HDJ : Hid (x.parts.drop j = x.parts[j] :: x.parts.drop (j + 1)) := hide (List.drop_eq_getElem_cons hjl)
                  generalize x.parts[j] = p at *
                  obtain ⟨o, ho⟩ : ∃ o : Nat, p.of = o := ⟨p.of.toNat, by omega⟩
                  have hoN : p.of.toNat = o := by omega
                  have hok : o < k := by omega
                  obtain ⟨q, hq1, hq2, hq3, hq4⟩ := HN2.out.at (show o < n by omega)
                  obtain ⟨mm, HMM⟩ : ∃ mm, Hid (p.many * r = mm) := ⟨_, hide rfl⟩
                  have hmr := mul6_range (y := p.many) (r := r) (B := 9999999) (by omega) hpb.2.2.2 hrb0 hrb1
                  rw [Int.mul_comm, HMM.out] at hmr
                  have hm0 : 0 ≤ mm := hmr.1
                  have hm1 : mm ≤ 59999994 := hmr.2
                  have hw1 : IntKind.i64.wrap (p.many * r) = mm := by rw [HMM.out]; exact IntWalk.i64_in _ (by omega)
                  have hw2 : IntKind.i64.wrap (q - mm) = q - mm := IntWalk.i64_in _ (by omega)
                  have HST : Hid (nw.getD p.of.toNat 0 - p.many * r = q - mm) := hide (by rw [hoN, hq2, HMM.out])
                  have HQ1 := hide hq1
                  have ho0 : (0 : Int) ≤ o := by omega
                  have ho1 : (o : Int) < n := by omega
                  have hj0 : (0 : Int) ≤ j := by omega
                  have hj1 : (j : Int) < x.parts.length := by omega
                  rw [ho] at h5
                  clear hpb hmr hq1 hq2
                  go_wp2_with fail
                  obtain ⟨w9, hW9⟩ : ∃ w9, wr.alloc (.cells #[.int .i64 (o : Int), .int .i64 p.many] 55) = w9 := ⟨_, rfl⟩
                  have HO9 : Hid (IntSl w9 w3.heap.size (.slice (some ⟨G, 0, none⟩) n cap) nw) := hide (by rw [← hW9]; exact World.ownsRow.alloc HO2.out _)
                  have HBR9 : Hid (Below w3.heap.size w3 w9) := hide (by rw [← hW9]; exact HBR2.out.alloc HBR2.out.size _)
                  have HBX9 : Hid (w9.heap[X]? = some (.cells #[.int .i64 x.yield, .slice (some ⟨b5, o5, none⟩) x.parts.length cl, .int .i64 x.marks] 53 (0, 0))) := hide (by rw [← hW9]; exact (heap_alloc_old wr _ hX2).trans HBX2.out)
                  have HPB9 : Hid (w9.heap[wr.heap.size]? = some (.cells #[.int .i64 (o : Int), .int .i64 p.many] 55 (0, 0))) := hide (by rw [← hW9]; exact heap_alloc_new wr _)
                  have hXp := heap_ltK HPB9.out
                  have hc1 : w9.cell? ⟨wr.heap.size, 0, none⟩ = some (.int .i64 (o : Int)) := by rw [cell_of_row w9 _ 0 _ _ _ HPB9.out]; rfl
                  have hc2 : w9.cell? ⟨wr.heap.size, 1, none⟩ = some (.int .i64 p.many) := by rw [cell_of_row w9 _ 1 _ _ _ HPB9.out]; rfl
                  have hc3 := (HCR.out _ HBR9.out).1
                  have hc4 := (HCR.out _ HBR9.out).2
                  have hc5 := IntSl.cellAt HO9.out HQ1.out
                  have hf5 := IntSl.frozenAt HO9.out o
                  rw [hW9]
                  clear hW9 h5 h6
                  refine still_tail_drew 15 (by kernel_rfl) (by kernel_rfl) ?_
                  simp only [List.take_succ_cons, List.take_zero, List.drop_succ_cons, List.drop_zero]
                  repeat still_step
                  refine wpStill_nil ?_
                  have HO10 : Hid (IntSl (w9.setCell ⟨G, o, none⟩ (.int .i64 (q - mm))).drew w3.heap.size (.slice (some ⟨G, 0, none⟩) n cap) (nw.set o (q - mm))) := hide (IntSl.store HO9.out o (q - mm))
                  have g10 := IntSl.grownSet HO9.out o (q - mm)
                  have HBR10 : Hid (Below w3.heap.size w3 (w9.setCell ⟨G, o, none⟩ (.int .i64 (q - mm))).drew) := hide (HBR9.out.grown g10 HBR9.out.size (fun j hj => by injection hj with hj; omega)).drew
                  by_cases hv : q - mm < 0
                  · have HNO : Hid (makeRunL l stock rs = none) := hide (mkGo_none (HE.out.trans (by rw [HDR.out])) (by rw [HRK.out]; exact mkParts_none (HMP.out.trans (by rw [HDJ.out])) (by rw [HST.out]; exact hv)))
                    clear g10
                    go_wp2_with fail
                    refine bodyPost_ret (results_tmp2 rfl _ _ _) rfl ⟨.slice none 0 0, by rw [HNO.out]; rfl, by rw [HNO.out]; exact World.ownsRow_nil _ _ _ _, next hb3 HBR10.out⟩
                  · have hvn : 0 ≤ q - mm := by omega
                    have HMP2 : Hid (mkParts r x.parts now = mkParts r (x.parts.drop (j + 1)) (nw.set o (q - mm))) := hide (by
                      have := mkParts_some (HMP.out.trans (by rw [HDJ.out])) (by rw [HST.out]; exact hv)
                      rwa [HST.out, hoN] at this)
                    have HN10 : Hid (NowIn (50 + 60000000 * (k : Int)) n (nw.set o (q - mm))) := hide (HN2.out.set o hvn (by omega))
                    have HBX10 : Hid ((w9.setCell ⟨G, o, none⟩ (.int .i64 (q - mm))).drew.heap[X]? = some (.cells #[.int .i64 x.yield, .slice (some ⟨b5, o5, none⟩) x.parts.length cl, .int .i64 x.marks] 53 (0, 0))) := hide ((g10.block X (heap_ltK HBX9.out) (fun e => by injection e with e; omega)).trans HBX9.out)
                    clear g10
                    go_wp2_with fail
                    go_roundw
                    case rel => exact ⟨j + 1, _, hjl, by go_num, HMP2, HN10, HO10.out, HBR10.out, HBX10.out⟩
                    case measure => simp [intOf]; omega
                · obtain rfl : j = x.parts.length := by omega
                  have hz9 : ¬ ((x.parts.length : Nat) : Int) < x.parts.length := by omega
                  have HPS : Hid (mkParts (rs.getD k 0) x.parts now = some nw) := hide (by rw [HRK.out, HMP.out, List.drop_length]; rfl)
                  obtain ⟨q, hq1, hq2, hq3, hq4⟩ := HN2.out.at (show k < n by omega)
                  obtain ⟨M, HM2⟩ : ∃ M, Hid (madeI x.yield r = M) := ⟨_, hide rfl⟩
                  have hmr := madeI_range hy0 hy1 hrb0 hrb1
                  rw [HM2.out] at hmr
                  have hm0 : 0 ≤ M := hmr.1
                  have hm1 : M ≤ 59999994 := hmr.2
                  have hw2 : IntKind.i64.wrap (q + M) = q + M := IntWalk.i64_in _ (by omega)
                  have HQ1 := hide hq1
                  have HE2 : Hid (makeRunL l stock rs = mkGo rs (k + 1) (l.drop (k + 1)) (nw.set k (q + M))) := hide (by
                    have := mkGo_some (HE.out.trans (by rw [HDR.out])) HPS.out
                    rwa [hq2, HRK.out, HM2.out] at this)
                  have HN3 : Hid (NowIn (50 + 60000000 * ((k + 1 : Nat) : Int)) n (nw.set k (q + M))) := hide ((HN2.out.mono (by omega)).set k (by omega) (by omega))
                  have hx1 : wr.cell? ⟨X, 0, none⟩ = some (.int .i64 x.yield) := by rw [cell_of_row wr _ 0 _ _ _ HBX2.out]; rfl
                  have hx2 : wr.cell? ⟨X, 1, none⟩ = some (.slice Al x.parts.length cl) := by rw [cell_of_row wr _ 1 _ _ _ HBX2.out]; rfl
                  have hx3 : wr.cell? ⟨X, 2, none⟩ = some (.int .i64 x.marks) := by rw [cell_of_row wr _ 2 _ _ _ HBX2.out]; rfl
                  have hc3 := (HCR.out _ HBR2.out).1
                  have hc4 := (HCR.out _ HBR2.out).2
                  have hc5 := IntSl.cellAt HO2.out HQ1.out
                  have hf5 := IntSl.frozenAt HO2.out k
                  clear hmr hq1 hq2
                  go_wp2_with fail
                  go_region_law (first
                    | (go_simp; go_at_call 29; (with_reducible refine (madeBy_any _ _ _ _ _ _ _ hy0 hy1 hrb0 (by omega)).mono ?_); rintro e W3 ⟨rfl, hB3⟩; rw [HM2.out]; have HO3 := hide (IntSl.below (IntSl.drew HO2.out) hB3); have hc7 := IntSl.cellAt HO3.out HQ1.out; have hf7 := IntSl.frozenAt HO3.out k; have HB3 := hide hB3))
                  all_goals
                    have HB4 : Hid (Below w3.heap.size w3 W3) := hide (next HBR2.out.drew HB3.out)
                    have HO4 : Hid (IntSl (W3.setCell ⟨G, k, none⟩ (.int .i64 (q + M))) w3.heap.size (.slice (some ⟨G, 0, none⟩) n cap) (nw.set k (q + M))) := hide (IntSl.store HO3.out k (q + M))
                    have HB5 : Hid (Below w3.heap.size w3 (W3.setCell ⟨G, k, none⟩ (.int .i64 (q + M)))) := hide (HB4.out.grown (IntSl.grownSet HO3.out k (q + M)) HB4.out.size (fun j hj => by injection hj with hj; omega))
                    clear hx1 hx2 hx3 hc3 hc4 hc5 hf5 hc7 hf7 HO3 HB3 HB4
                    go_wp2_with fail
                    go_roundw
                    case rel => exact ⟨k + 1, _, hlt, by go_num, HE2, HN3, HO4.out, HB5.out⟩
                    case measure => simp [intOf]; omega
            · obtain rfl : k = l.length := by omega
              have hz2 : ¬ ((l.length : Nat) : Int) < l.length := by omega
              have HE3 : Hid (makeRunL l stock rs = some now) := hide (by rw [HE.out, List.drop_length]; rfl)
              go_wp2_with fail
              refine bodyPost_ret (results_tmp2 rfl _ _ _) rfl ⟨_, by rw [HE3.out]; rfl, by rw [HE3.out]; exact IntSl.mono hO hb3.size, next hb3 hbr⟩
end Go.Proofs.Yteloapholoechaa
