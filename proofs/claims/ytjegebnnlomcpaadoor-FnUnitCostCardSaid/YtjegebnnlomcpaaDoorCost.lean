/- Contracts of PlanCost, of the program and of the reference model: both compute one function of the list, the prices and the plan.
   Conditions: all lists have at most 1048576 elements. -/
import Derived.Test.YtjegebnnlomcpaaDoorPrices
import Derived.Test.YtjegebnnlomcpaaDoorUses
namespace Go.Proofs.YtjegebnnlomcpaaDoor
open Go.RowKit

set_option maxHeartbeats 400000 in
theorem isMade_is (A : Option Addr) (c n : Nat) (y m : Int) (b : Bool) (hb : Hid (decide (0 < y) = b)) (w : World) :
    Calls Tryd.prog 16 #[.agg #[.int .i64 y, .slice A n c, .int .i64 m]] w fun e w' => e = .returned (.bool b) ∧ Below w.heap.size w w' := by
  obtain rfl : decide (0 < y) = b := hb
  go_enter Tryd.func16, Tryd.ntmps16
  go_wp2_with fail
  go_ret
  exact ⟨rfl, by go_grown⟩

theorem rangeOk_at {most : Int} {xs : List Int} (h : rangeOk most xs = true) {i : Nat} {r : Int} (hr : xs[i]? = some r) : 0 ≤ r ∧ r ≤ most := by
  unfold rangeOk at h
  exact inR_iff.1 (List.all_eq_true.1 h r (List.mem_of_getElem? hr))

def costTo (l : List Item) (runs prices : List Int) : Nat → Int
  | 0 => 0
  | k + 1 => costTo l runs prices k + (if (l.getD k instItem.default).yield = 0 then runs.getD k 0 * prices.getD k 0 else 0)

def costL (l : List Item) (prices runs : List Int) : Int :=
  if (pricesOk l prices && (decide ((runs.length : Int) = l.length) && rangeOk 9999999 runs)) = true then costTo l runs prices l.length else -1

theorem mul_range {r p : Int} (h0 : 0 ≤ r) (h1 : r ≤ 9999999) (k0 : 0 ≤ p) (k1 : p ≤ 20) : 0 ≤ r * p ∧ r * p ≤ 199999980 :=
  ⟨Int.mul_nonneg h0 k0, Int.le_trans (Int.mul_le_mul h1 k1 k0 (by omega)) (by omega)⟩

theorem pricesOk_at {l : List Item} {prices : List Int} (h : pricesOk l prices = true) : itemsOk l = true ∧ prices.length = l.length ∧ rangeOk 20 prices = true := by
  unfold pricesOk at h
  simp only [Bool.and_eq_true, decide_eq_true_eq] at h
  exact ⟨h.1, by omega, h.2.2⟩

set_option maxHeartbeats 1000000 in
theorem implPlanCost_any (A A' B B' : Option Addr) (c c' d d' : Nat) (l : List Item) (prices runs left : List Int) (w : World) (hA : ItemsAt w A l) (hl : l.length ≤ 1048576) (hp : ∀ x ∈ l, x.parts.length ≤ 1048576)
    (hX : IntsAt w A' prices) (hx : prices.length ≤ 1048576) (hR : IntsAt w B runs) (hr : runs.length ≤ 1048576) :
    Calls Tryd.prog 9 #[.slice A l.length c, .slice A' prices.length c', .agg #[.slice B runs.length d, .slice B' left.length d']] w fun e w' => e = .returned (.int .i64 (costL l prices runs)) ∧ Below w.heap.size w w' := by
  have HP := hide hp
  clear hp
  cases hI : pricesOk l prices with
  | false =>
    have HI := hide hI
    have HE : Hid (costL l prices runs = -1) := by unfold costL; rw [hI]; exact hide rfl
    clear hI
    go_enter Tryd.func9, Tryd.ntmps9
    go_wp2_with fail
    refine (implPricesValid_any _ _ _ _ _ _ _ (hA.below (by go_grown)) hl HP.out (hX.below (by go_grown)) hx).mono ?_
    rintro e w1 ⟨rfl, hB⟩
    rw [HI.out]
    have hb : Below w.heap.size w w1 := Below.trans (by go_grown) (hB.mono (by simp))
    go_wp2_with fail
    go_ret
    exact ⟨by rw [HE.out]; rfl, hb⟩
  | true =>
    have HI := hide hI
    cases hq : (decide ((runs.length : Int) = l.length) && rangeOk 9999999 runs) with
    | false =>
      have HQ := hide hq
      have HE : Hid (costL l prices runs = -1) := by unfold costL; rw [hI, hq]; exact hide rfl
      clear hI hq
      go_enter Tryd.func9, Tryd.ntmps9
      go_wp2_with fail
      refine (implPricesValid_any _ _ _ _ _ _ _ (hA.below (by go_grown)) hl HP.out (hX.below (by go_grown)) hx).mono ?_
      rintro e w1 ⟨rfl, hB⟩
      rw [HI.out]
      have hb : Below w.heap.size w w1 := Below.trans (by go_grown) (hB.mono (by simp))
      have hc : ∀ o, w1.cell? ⟨w.heap.size, o, none⟩ = _ := fun o => hB.cell (p := ⟨w.heap.size, o, none⟩) (by simp)
      go_wp2_with fail
      refine (allInRange_any _ _ _ _ _ _ (hR.below hb) hr).mono ?_
      rintro e w2 ⟨rfl, hB2⟩
      rw [HQ.out]
      have hb2 := next hb hB2
      go_wp2_with fail
      go_ret
      exact ⟨by rw [HE.out]; rfl, hb2⟩
    | true =>
      have HQ := hide hq
      have HE : Hid (costL l prices runs = costTo l runs prices l.length) := by unfold costL; rw [hI, hq]; exact hide rfl
      obtain ⟨hI1, hI2, hI3⟩ := pricesOk_at hI
      have HI1 := hide hI1
      have HI3 := hide hI3
      have hl6 := itemsOk_len hI1
      simp only [Bool.and_eq_true, decide_eq_true_eq] at hq
      have hrl : runs.length = l.length := by omega
      have HRL := hide hrl
      have hpl1 : prices.length ≤ l.length := by omega
      have hpl2 : l.length ≤ prices.length := by omega
      have hrl1 : runs.length ≤ l.length := by omega
      have hrl2 : l.length ≤ runs.length := by omega
      have HQ2 := hide hq.2
      clear hI hq hI1 hI2 hI3 hrl
      go_enter Tryd.func9, Tryd.ntmps9
      go_wp2_with fail
      refine (implPricesValid_any _ _ _ _ _ _ _ (hA.below (by go_grown)) hl HP.out (hX.below (by go_grown)) hx).mono ?_
      rintro e w1 ⟨rfl, hB⟩
      rw [HI.out]
      have hb : Below w.heap.size w w1 := Below.trans (by go_grown) (hB.mono (by simp))
      have hsz0 := hB.size
      simp only [World.size_alloc] at hsz0
      have hc : ∀ o, w1.cell? ⟨w.heap.size, o, none⟩ = _ := fun o => hB.cell (p := ⟨w.heap.size, o, none⟩) (by simp)
      go_wp2_with fail
      refine (allInRange_any _ _ _ _ _ _ (hR.below hb) hr).mono ?_
      rintro e w2 ⟨rfl, hB2⟩
      rw [HQ.out]
      have hb2 := next hb hB2
      have hsz2 := hB2.size
      have hcell : w2.cell? ⟨w.heap.size, 0, none⟩ = some (.slice B runs.length d) := by
        rw [hB2.cell (p := ⟨w.heap.size, 0, none⟩) (by show w.heap.size < w1.heap.size; omega), hc]; simp
      clear hc
      go_wp2_with fail
      go_loopw [7, 24] (fun cv i wr => ∃ (cost : Int) (k : Nat), k ≤ l.length ∧ 0 ≤ cost ∧ cost ≤ 199999980 * k ∧ cv = .int .i64 cost ∧ i = .int .i64 k ∧ Hid (cost = costTo l runs prices k) ∧ wr.cell? ⟨w.heap.size, 0, none⟩ = some (.slice B runs.length d) ∧ w.heap.size < wr.heap.size ∧ Below w.heap.size w wr) (fun _ i _ => l.length - (intOf i).toNat)
      case atStart => exact ⟨0, 0, by omega, by omega, by omega, rfl, rfl, hide rfl, hcell, by omega, hb2⟩
      case round =>
        obtain ⟨cost, k, hk, hc0, hc1, rfl, rfl, HG, hcl, hszl, hbr⟩ := hrel
        have hsz := hbr.size
        by_cases hlt : k < l.length
        · obtain ⟨b, off, Bp, dp, rfl, hbl, hx1, hx2, hx3, hpa⟩ := (hA.below hbr) k l[k] (List.getElem?_eq_getElem hlt)
          obtain ⟨b2, off2, rfl, hbl2, hy1⟩ := (hX.below hbr) k (prices[k]'(by omega)) (List.getElem?_eq_getElem (by omega))
          obtain ⟨b3, off3, rfl, hbl3, hz1⟩ := (hR.below hbr) k (runs[k]'(by omega)) (List.getElem?_eq_getElem (by omega))
          have hit := itemsOk_at HI1.out (List.getElem?_eq_getElem hlt)
          have hpr := rangeOk_at HI3.out (List.getElem?_eq_getElem (show k < prices.length by omega))
          have hrr := rangeOk_at HQ2.out (List.getElem?_eq_getElem (show k < runs.length by omega))
          have HX : Hid (l.getD k instItem.default = l[k]) := hide (by simp [hlt])
          have HY : Hid (prices.getD k 0 = prices[k]'(by omega)) := hide (by simp [show k < prices.length by omega])
          have HZ : Hid (runs.getD k 0 = runs[k]'(by omega)) := hide (by simp [show k < runs.length by omega])
          generalize l[k] = x at *
          generalize (prices[k]'(by omega)) = p at *
          generalize (runs[k]'(by omega)) = r at *
          have hm := mul_range hrr.1 hrr.2 hpr.1 hpr.2
          have hm0 := hm.1
          have hm1 := hm.2
          have hy0 : 0 ≤ x.yield := hit.2.2.1
          clear hit hpr hrr hm
          have hz : (0 : Int) ≤ k := by omega
          have hz2 : (k : Int) < l.length := by omega
          by_cases hyz : x.yield = 0
          · have HM : Hid (decide (0 < x.yield) = false) := hide (decide_eq_false (by omega))
            have HG2 : Hid (cost + r * p = costTo l runs prices (k + 1)) := hide (by rw [HG.out, costTo, HX.out, HY.out, HZ.out, if_pos hyz])
            clear hyz
            go_wp2_with fail
            refine (isMade_is _ _ _ _ _ _ HM _).mono ?_
            rintro e w3 ⟨rfl, hB3⟩
            have hb3 : Below w.heap.size w w3 := Below.trans (by go_grown) (hB3.mono (by simp; omega))
            have hsz3 := hb3.size
            have hszz : wr.heap.size ≤ w3.heap.size := by have := hB3.size; simp only [World.size_alloc] at this; omega
            have hold : ∀ q : Addr, q.block < wr.heap.size → w3.cell? q = wr.cell? q := fun q hq => (hB3.cell (by simp; omega)).trans (World.cell?_alloc_lt _ _ _ hq)
            have g1 := (hold _ hbl2).trans hy1
            have g2 := (hold _ hbl3).trans hz1
            have g3 := (hold ⟨w.heap.size, 0, none⟩ hszl).trans hcl
            clear hy1 hz1 hcl hold
            go_wp2_with fail
            go_quiet (fail)
            go_wp2_with fail
            go_roundw
            case rel => exact ⟨_, k + 1, hlt, by omega, by omega, rfl, by go_num, HG2, g3, (by show w.heap.size < w3.heap.size; omega), below_drewN hb3 _⟩
            case measure => simp [intOf]; omega
          · have HM : Hid (decide (0 < x.yield) = true) := hide (decide_eq_true (by omega))
            have HG2 : Hid (cost = costTo l runs prices (k + 1)) := hide (by rw [HG.out]; conv => rhs; rw [costTo, HX.out, if_neg hyz, Int.add_zero])
            clear hyz
            go_wp2_with fail
            refine (isMade_is _ _ _ _ _ _ HM _).mono ?_
            rintro e w3 ⟨rfl, hB3⟩
            have hb3 : Below w.heap.size w w3 := Below.trans (by go_grown) (hB3.mono (by simp; omega))
            have hszz : wr.heap.size ≤ w3.heap.size := by have := hB3.size; simp only [World.size_alloc] at this; omega
            have hold : ∀ q : Addr, q.block < wr.heap.size → w3.cell? q = wr.cell? q := fun q hq => (hB3.cell (by simp; omega)).trans (World.cell?_alloc_lt _ _ _ hq)
            have g3 := (hold ⟨w.heap.size, 0, none⟩ hszl).trans hcl
            clear hcl hold
            go_wp2_with fail
            go_roundw
            case rel => exact ⟨_, k + 1, hlt, by omega, by omega, rfl, by go_num, HG2, g3, by omega, hb3⟩
            case measure => simp [intOf]; omega
        · have HF : Hid (costL l prices runs = cost) := hide (by rw [HE.out, HG.out, show k = l.length from by omega])
          go_wp2_with fail
          go_ret
          exact ⟨by rw [HF.out]; rfl, hbr⟩

end Go.Proofs.YtjegebnnlomcpaaDoor
