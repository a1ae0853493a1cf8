/- For all drawn bytes the law of PlanLeast answers true, and its argument reads as it did.
   Conditions: none. -/
import Derived.Test.YtdlbcadgomegoaaDoorLawKit
import Derived.Test.YtdlbcadgomegoaaDoorDraw4
import Derived.Test.YtdlbcadgomegoaaDoorDrawAmounts
import Derived.Test.YtdlbcadgomegoaaDoorPlanLst2
import Derived.Test.YtdlbcadgomegoaaDoorLists
namespace Go.Proofs.YtdlbcadgomegoaaDoor
open Go.RowKit Go.ChangeShapes Go.WideShapes Go.ChangeAt Go.Deep

set_option maxHeartbeats 400000 in
theorem samePlan_same (A A' B B' : Option Addr) (c c' d d' : Nat) (xs ys : List Int) (w : World) (h1 : IntsAt w A xs) (h2 : IntsAt w A' ys) (k1 : IntsAt w B xs) (k2 : IntsAt w B' ys) (hl : xs.length ≤ 1048576) (hl' : ys.length ≤ 1048576) :
    Calls Tryd.prog 19 #[.agg #[.slice A xs.length c, .slice A' ys.length c'], .agg #[.slice B xs.length d, .slice B' ys.length d']] w fun e w' => e = .returned (.bool true) ∧ Below w.heap.size w w' := by
  go_enter Tryd.func19, Tryd.ntmps19
  go_wp2_with fail
  refine (sameInts_same _ _ _ _ _ _ (h1.below (by go_grown)) (k1.below (by go_grown)) hl).mono ?_
  rintro e w1 ⟨rfl, hB⟩
  simp only [World.size_alloc] at hB
  have hb2 : Below w.heap.size w w1 := Below.trans (by go_grown) (hB.mono (by omega))
  have hc : ∀ b o, b < w.heap.size + 2 → w1.cell? ⟨b, o, none⟩ = _ := fun b o hb => hB.cell (p := ⟨b, o, none⟩) hb
  go_wp2_with fail
  refine (sameInts_same _ _ _ _ _ _ (h2.below hb2) (k2.below hb2) hl').mono ?_
  rintro e w2 ⟨rfl, hB2⟩
  have hb3 := next hb2 hB2
  go_wp2_with fail
  go_ret
  exact ⟨rfl, hb3⟩

def DrawnPL (w : World) (e : Ending) (w' : World) : Prop := ∃ (l : List Item) (A : Option Addr) (c : Nat) (xs ys : List Int) (g c2 g3 c3 : Nat), e = .returned (.tuple #[.slice A l.length c, .slice (some ⟨g, 0, none⟩) xs.length c2, .slice (some ⟨g3, 0, none⟩) ys.length c3]) ∧ ItemsAt w' A l ∧ l.length ≤ 7 ∧ (∀ x ∈ l, x.parts.length ≤ 5) ∧ IntsAt w' (some ⟨g, 0, none⟩) xs ∧ xs.length ≤ 8 ∧ IntsAt w' (some ⟨g3, 0, none⟩) ys ∧ ys.length ≤ 8 ∧ Below w.heap.size w w'

set_option maxRecDepth 100000 in
set_option maxHeartbeats 1000000 in
theorem drawPlanLeast_any (A : Option Addr) (c m : Nat) (w : World) (hB : BytesIn w A m) (hm : m ≤ 9223372036854775807) (hc : m ≤ c) (hc2 : c ≤ 9223372036854775807) :
    Calls Tryd.prog 17 #[.slice A m c] w (DrawnPL w) := by
  go_enter Tryd.func17, Tryd.ntmps17
  go_wp2_with fail
  refine (open_any A c m w hB hm hc hc2).mono ?_
  rintro e w1 ⟨rfl, hR1, hb1⟩
  have hz1 := hb1.size
  go_wp2_with fail
  refine (l20Items_any w.heap.size 0 9 _ hR1 (by omega) (by omega)).mono ?_
  rintro e w2 ⟨l, v, rfl, hS2, hl, hp, hR2, hg2⟩
  have hb2 : Below w.heap.size w w2 := hb1.grown hg2 hz1 (fun j hj => by injection hj with hj; omega)
  have hz2 := hb2.size
  obtain ⟨A2, c2, hv, hI2⟩ := hS2.form
  subst hv
  have HS := hide (And.intro hS2 (And.intro hR2 (And.intro hp hR1)))
  have hb0 := hR1.lt
  clear hS2 hp hR1 hI2
  go_wp2_with fail
  refine (l20Amounts_any w.heap.size _ l.length A2 c2 12 _ hR2 (by omega) hl (by omega)).mono ?_
  rintro e w3 ⟨xs, g, c3, rfl, hX3, hx, hR3, hg3, -⟩
  have hb3 : Below w.heap.size w w3 := hb2.grown hg3 hz2 (fun j hj => by injection hj with hj; omega)
  have HS3 := hide (HS.out.1.pick HS.out.2.1 HS.out.2.2.2.lt hg3)
  have HX3 := hide hX3
  have HR3 := hide hR3
  have hz3 := hb3.size
  have hb20 := HS.out.2.1.lt
  clear hX3 hR2 hg2 hg3
  go_wp2_with fail
  refine (l20Amounts_any w.heap.size _ l.length A2 c2 12 _ hR3 (by omega) hl (by omega)).mono ?_
  rintro e w4 ⟨ys, g4, c4, rfl, hY4, hy, hR4, hg4, -⟩
  have hb4 : Below w.heap.size w w4 := hb3.grown hg4 hz3 (fun j hj => by injection hj with hj; omega)
  have hS4 := HS3.out.pick HR3.out HS.out.2.2.2.lt hg4
  obtain ⟨A3, c5, hv, hI4⟩ := hS4.form
  injection hv with hv hv2 hv3
  subst hv hv3
  have HI := hide hI4
  have HX4 := hide (IntSl.ints (row_pickI HX3.out hb20 hg4))
  have HY := hide hY4.ints
  clear hI4 hS4 hR4 hg4 hR3 hY4
  go_wp2_with fail
  refine bodyPost_ret (v := .tuple #[.slice A2 l.length c2, .slice (some ⟨g, 0, none⟩) xs.length c3, .slice (some ⟨g4, 0, none⟩) ys.length c4]) (by simp [results, Tryd.results17, go_sem]) rfl ⟨l, A2, c2, xs, ys, g, c3, g4, c4, rfl, HI.out, hl, HS.out.2.2.1, HX4.out, hx, HY.out, hy, hb4⟩

set_option maxRecDepth 100000 in
set_option maxHeartbeats 4000000 in
theorem lawPlanLeast_any (A : Option Addr) (c m : Nat) (w : World) (hB : BytesIn w A m) (hc : m ≤ c) (hc2 : c ≤ 9223372036854775807) :
    Calls Tryd.prog 5 #[.slice A m c] w fun e w' => e = .returned (.bool true) ∧ Below w.heap.size w w' := by
  by_cases hlen : (1048576 : Int) < m
  · go_enter Tryd.func5, Tryd.ntmps5
    go_wp2_with fail
    go_ret
    exact ⟨rfl, by go_grown⟩
  · go_enter Tryd.func5, Tryd.ntmps5
    go_wp2_with fail
    refine (drawPlanLeast_any A c m w hB (by omega) hc hc2).mono ?_
    rintro e w1 ⟨l, A1, c1, want, stock, gx, c2, gy, c3, rfl, hI, hl, hp, hX, hxl, hY, hyl, hb1⟩
    have hbb0 : (false != false) = false := rfl
    have hl' : l.length ≤ 1048576 := by omega
    have hx' : want.length ≤ 1048576 := by omega
    have hy' : stock.length ≤ 1048576 := by omega
    have HP : Hid (∀ x ∈ l, x.parts.length ≤ 1048576) := hide (fun x hx => by have := hp x hx; omega)
    have HI1 := hide hI
    have HX1 := hide hX
    have HY1 := hide hY
    clear hp hI hX hY
    go_wp2_with fail
    refine (implPlanLeast_any _ _ _ _ _ _ _ _ _ _ HI1.out hl' HP.out HX1.out hx' HY1.out hy').mono ?_
    rintro e w2 ⟨v, u, rfl, hV, hU, -, hB2⟩
    have hb2 := next hb1 hB2
    cases hAm : amountsOk l want stock with
    | false =>
      have HAM := hide hAm
      unfold planRunsL at hV
      unfold planLeftL at hU
      rw [hAm, if_neg (by simp)] at hV hU
      obtain ⟨V1, d1, rfl, -, -⟩ := hV.form
      obtain ⟨U1, e1, rfl, -, -⟩ := hU.form
      simp only [List.length_nil] at *
      have hBa : Below w2.heap.size w2 (w2.alloc (.cells #[.slice V1 0 d1, .slice U1 0 e1] 35)) := (Below.refl _ _).alloc (Nat.le_refl _) _
      have hb2a := next hb2 hBa
      have HIa := hide ((HI1.out.below hB2).below hBa)
      have HXa := hide ((HX1.out.below hB2).below hBa)
      have HYa := hide ((HY1.out.below hB2).below hBa)
      clear hAm hV hU
      go_wp2_with fail
      refine (specPlanLeast_any _ _ _ _ _ _ _ _ _ _ HIa.out hl' HP.out HXa.out hx' HYa.out hy').mono ?_
      rintro e w3 ⟨v, u, rfl, hV, hU, -, hB3⟩
      have hb3 := next hb2a hB3
      rw [HAM.out]
      unfold planRunsL at hV
      unfold planLeftL at hU
      rw [HAM.out, if_neg (by simp)] at hV hU
      obtain ⟨V2, d2, rfl, -, -⟩ := hV.form
      obtain ⟨U2, e2, rfl, -, -⟩ := hU.form
      simp only [List.length_nil] at *
      obtain ⟨hc1, hc2', hlt3⟩ : w3.cell? ⟨w2.heap.size, 0, none⟩ = some (.slice V1 0 d1) ∧ w3.cell? ⟨w2.heap.size, 1, none⟩ = some (.slice U1 0 e1) ∧ w2.heap.size < w3.heap.size := keepBox (by simp) hB3 (by simp)
      clear hV hU HIa HXa HYa HI1 HX1 HY1
      go_wp2_with fail
      refine (samePlan_same _ _ _ _ _ _ _ _ [] [] _ (IntsAt.nil _ _) (IntsAt.nil _ _) (IntsAt.nil _ _) (IntsAt.nil _ _) (by simp) (by simp)).mono ?_
      rintro e w4 ⟨rfl, hB4⟩
      have hBb : Below w3.heap.size w3 (w3.alloc (.cells #[.slice V2 0 d2, .slice U2 0 e2] 35)) := (Below.refl _ _).alloc (Nat.le_refl _) _
      have hb4 := next (next hb3 hBb) hB4
      have hk := keepBox (And.intro hc1 (And.intro hc2' hlt3)) (next hBb hB4) hlt3
      obtain ⟨hd1, hd2, hd3⟩ := hk
      clear hc1 hc2' hB4 hBb
      go_wp2_with fail
      refine (alive_any _).mono ?_
      rintro e w5 ⟨rfl, hB5⟩
      go_wp2_with fail
      go_ret
      exact ⟨rfl, next hb4 hB5⟩
    | true =>
      have HAM := hide hAm
      have HPO := hide (least_ok hAm)
      have HRL := hide (lstL_len l want stock)
      have HLL : Hid ((leastLeft l want stock).length = l.length) := hide (tab_len _ _)
      have HFW : Hid (∀ k, k < l.length → 0 < (lstL l want stock).getD k 0 → (leastLeft l want stock).getD k 0 < max (l.getD k nil0).yield 1) := hide (fun k hk h => by
        have := least_few hAm hk h
        unfold leastLeft
        rwa [tab_getDp hk])
      unfold planRunsL at hV
      unfold planLeftL at hU
      rw [hAm, if_pos rfl] at hV hU
      obtain ⟨rs, HRS⟩ : ∃ rs, Hid (lstL l want stock = rs) := ⟨_, hide rfl⟩
      obtain ⟨lf, HLF⟩ : ∃ lf, Hid (leastLeft l want stock = lf) := ⟨_, hide rfl⟩
      rw [HRS.out] at hV HPO HRL HFW
      rw [HLF.out] at hU HPO HLL HFW
      have hrn : rs.length ≤ 1048576 := by rw [HRL.out]; exact hl'
      have hln : lf.length ≤ 1048576 := by rw [HLL.out]; exact hl'
      have hr1 : l.length ≤ rs.length := Nat.le_of_eq HRL.out.symm
      have hl1 : l.length ≤ lf.length := Nat.le_of_eq HLL.out.symm
      obtain ⟨V1, d1, rfl, hVI, -⟩ := hV.form
      obtain ⟨U1, e1, rfl, hUI, -⟩ := hU.form
      have hBa : Below w2.heap.size w2 (w2.alloc (.cells #[.slice V1 rs.length d1, .slice U1 lf.length e1] 35)) := (Below.refl _ _).alloc (Nat.le_refl _) _
      have hb2a := next hb2 hBa
      have HIa := hide ((HI1.out.below hB2).below hBa)
      have HXa := hide ((HX1.out.below hB2).below hBa)
      have HYa := hide ((HY1.out.below hB2).below hBa)
      have HVI := hide (hVI.below hBa)
      have HUI := hide (hUI.below hBa)
      clear hAm hV hU hVI hUI HI1 HX1 HY1 hB2
      go_wp2_with fail
      refine (specPlanLeast_any _ _ _ _ _ _ _ _ _ _ HIa.out hl' HP.out HXa.out hx' HYa.out hy').mono ?_
      rintro e w3 ⟨v, u, rfl, hV, hU, -, hB3⟩
      have hb3 := next hb2a hB3
      rw [HAM.out]
      unfold planRunsL at hV
      unfold planLeftL at hU
      rw [HAM.out, if_pos rfl, HRS.out] at hV
      rw [HAM.out, if_pos rfl, HLF.out] at hU
      obtain ⟨V2, d2, rfl, hVI2, -⟩ := hV.form
      obtain ⟨U2, e2, rfl, hUI2, -⟩ := hU.form
      obtain ⟨hc1, hc2', hlt3⟩ : w3.cell? ⟨w2.heap.size, 0, none⟩ = some (.slice V1 rs.length d1) ∧ w3.cell? ⟨w2.heap.size, 1, none⟩ = some (.slice U1 lf.length e1) ∧ w2.heap.size < w3.heap.size := keepBox (by simp) hB3 (by simp)
      have hBb : Below w3.heap.size w3 (w3.alloc (.cells #[.slice V2 rs.length d2, .slice U2 lf.length e2] 35)) := (Below.refl _ _).alloc (Nat.le_refl _) _
      have hb3a := next hb3 hBb
      have HIb := hide ((HIa.out.below hB3).below hBb)
      have HXb := hide ((HXa.out.below hB3).below hBb)
      have HYb := hide ((HYa.out.below hB3).below hBb)
      have HVb := hide ((HVI.out.below hB3).below hBb)
      have HUb := hide ((HUI.out.below hB3).below hBb)
      have HV2 := hide (hVI2.below hBb)
      have HU2 := hide (hUI2.below hBb)
      have HBBx := hide hBb
      have HKB := hide (And.intro hc1 (And.intro hc2' hlt3))
      clear hV hU hVI2 hUI2 HIa HXa HYa HVI HUI hB3 hBb hBa
      go_wp2_with fail
      refine (samePlan_same _ _ _ _ _ _ _ _ rs lf _ HVb.out HUb.out HV2.out HU2.out hrn hln).mono ?_
      rintro e w4 ⟨rfl, hB4⟩
      have hb4 := next hb3a hB4
      have HK := hide (keepBox HKB.out (next HBBx.out hB4) HKB.out.2.2)
      have HI4 := hide (HIb.out.below hB4)
      have HX4 := hide (HXb.out.below hB4)
      have HY4 := hide (HYb.out.below hB4)
      have HV4 := hide (HVb.out.below hB4)
      have HU4 := hide (HUb.out.below hB4)
      clear hc1 hc2' hB4 HIb HXb HYb HVb HUb HV2 HU2 HBBx HKB
      go_wp2_with fail
      go_loopw [10] (fun i wr => ∃ k : Nat, k ≤ l.length ∧ i = .int .i64 k ∧ Below w4.heap.size w4 wr) (fun i _ => l.length - (intOf i).toNat)
      case atStart => exact ⟨0, Nat.zero_le _, rfl, Below.refl _ _⟩
      case round =>
        obtain ⟨k, hk, rfl, hbw⟩ := hrel
        have hbr := next hb4 hbw
        obtain ⟨hx0, hx1, hx2⟩ := keepBox HK.out hbw HK.out.2.2
        by_cases hlt : k < l.length
        · obtain ⟨bl, offl, Al, cl, rfl, hbl, hi1, -, -, -⟩ := (HI4.out.below hbw) k l[k] (List.getElem?_eq_getElem hlt)
          obtain ⟨b4, off4, rfl, hbl4, hr4⟩ := (HV4.out.below hbw) k (rs[k]'(by omega)) (List.getElem?_eq_getElem (by omega))
          obtain ⟨b5, off5, rfl, hbl5, hf5⟩ := (HU4.out.below hbw) k (lf[k]'(by omega)) (List.getElem?_eq_getElem (by omega))
          have HX1b : Hid (l.getD k nil0 = l[k]) := hide (by simp [hlt])
          have HX2b : Hid (rs.getD k 0 = rs[k]'(by omega)) := hide (by simp [show k < rs.length by omega])
          have HX3b : Hid (lf.getD k 0 = lf[k]'(by omega)) := hide (by simp [show k < lf.length by omega])
          generalize l[k] = x at *
          generalize (rs[k]'(by omega)) = r at *
          generalize (lf[k]'(by omega)) = f at *
          have HFk := HFW.out k hlt
          rw [HX1b.out, HX2b.out, HX3b.out] at HFk
          obtain ⟨y, HYm⟩ : ∃ y, Hid (max x.yield 1 = y) := ⟨_, hide rfl⟩
          have hmx : (if x.yield < 1 then (1 : Int) else x.yield) = y := by rw [← HYm.out]; split <;> omega
          rw [HYm.out] at HFk
          have hz : (0 : Int) ≤ k := by omega
          have hz2 : (k : Int) < l.length := by omega
          have hz3 : (k : Int) < rs.length := by omega
          have hz4 : (k : Int) < lf.length := by omega
          have HB := hide hbw
          clear hbw
          by_cases hr0 : 0 < r
          · have hd : decide (0 < r) = true := decide_eq_true hr0
            have hfy : f < y := HFk hr0
            have hd2 : decide (y ≤ f) = false := decide_eq_false (by omega)
            clear HFk
            go_wp2_with fail
            go_quiet (fail)
            go_wp2_with fail
            go_roundw
            case rel => exact ⟨k + 1, hlt, by go_num, below_drewN HB.out _⟩
            case measure => simp [intOf]; omega
          · have hd : decide (0 < r) = false := decide_eq_false hr0
            clear HFk hr0
            go_wp2_with fail
            go_quiet (fail)
            go_wp2_with fail
            go_roundw
            case rel => exact ⟨k + 1, hlt, by go_num, below_drewN HB.out _⟩
            case measure => simp [intOf]; omega
        · have HPE : Hid (Calls Tryd.prog 14 #[.slice A1 l.length c1, .slice (some ⟨gx, 0, none⟩) want.length c2, .slice (some ⟨gy, 0, none⟩) stock.length c3, .agg #[.slice V1 rs.length d1, .slice U1 lf.length e1]] wr fun e w' => e = .returned (.bool true) ∧ Below wr.heap.size wr w') := hide (by
            have := implPlanOk_any _ _ _ _ _ c1 c2 c3 d1 e1 l want stock rs lf wr (HI4.out.below hbw) hl' HP.out (HX4.out.below hbw) hx' (HY4.out.below hbw) hy' (HV4.out.below hbw) hrn (HU4.out.below hbw) hln
            rwa [HPO.out] at this)
          clear hbw
          go_wp2_with fail
          refine HPE.out.mono ?_
          rintro e w5 ⟨rfl, hB5⟩
          go_wp2_with fail
          go_ret
          exact ⟨rfl, next hbr hB5⟩
end Go.Proofs.YtdlbcadgomegoaaDoor
