/- Contracts of PlanCost, of the program and of the reference model: both compute one function of the list, the prices and the plan.
   Conditions: all lists have at most 1048576 elements. -/
import Derived.Test.YtmepnilnlpoodaaDoorPrices
import Derived.Test.YtmepnilnlpoodaaDoorUses
namespace Go.Proofs.YtmepnilnlpoodaaDoor
open Go.RowKit

set_option maxHeartbeats 400000 in
theorem isMade_is (A : Option Addr) (c n : Nat) (y m : Int) (b : Bool) (hb : Hid (decide (0 < y) = b)) (w : World) :
    Calls Tryd.prog 120 #[.agg #[.int .i64 y, .slice A n c, .int .i64 m]] w fun e w' => e = .returned (.bool b) ∧ Below w.heap.size w w' := by
  obtain rfl : decide (0 < y) = b := hb
  go_enter Tryd.func120, Tryd.ntmps120
  go_wp2_with fail
  go_ret
  exact ⟨rfl, by go_grown⟩

theorem rangeOk_at {most : Int} {xs : List Int} (h : rangeOk most xs = true) {i : Nat} {r : Int} (hr : xs[i]? = some r) : 0 ≤ r ∧ r ≤ most := by
  unfold rangeOk at h
  exact inR_iff.1 (List.all_eq_true.1 h r (List.mem_of_getElem? hr))

def costTo (l : List Item) (runs prices : List Int) : Nat → Int
  | 0 => 0
  | k + 1 => costTo l runs prices k + (if (l.getD k instItem.default).yield = 0 then runs.getD k 0 * prices.getD k 0 else 0)

def costL (l : List Item) (prices runs : List Int) : Int :=
  if (pricesOk l prices && (decide ((runs.length : Int) = l.length) && rangeOk 9999999 runs)) = true then costTo l runs prices l.length else -1

theorem mul_range {r p : Int} (h0 : 0 ≤ r) (h1 : r ≤ 9999999) (k0 : 0 ≤ p) (k1 : p ≤ 20) : 0 ≤ r * p ∧ r * p ≤ 199999980 :=
  ⟨Int.mul_nonneg h0 k0, Int.le_trans (Int.mul_le_mul h1 k1 k0 (by omega)) (by omega)⟩

theorem pricesOk_at {l : List Item} {prices : List Int} (h : pricesOk l prices = true) : itemsOk l = true ∧ prices.length = l.length ∧ rangeOk 20 prices = true := by
  unfold pricesOk at h
  simp only [Bool.and_eq_true, decide_eq_true_eq] at h
  exact ⟨h.1, by omega, h.2.2⟩

end Go.Proofs.YtmepnilnlpoodaaDoor
