/- Cooking: valid dishes and spans, burners; contracts of the program and of the reference model.
   Conditions: lists have at most 1048576 elements. -/
import Derived.Test.YtgagfaajilbmmaaDoorStock
import Derived.Test.YtgagfaajilbmmaaDoorDishes
import Derived.Test.YtgagfaajilbmmaaDoorLeast
namespace Go.Proofs.YtgagfaajilbmmaaDoor
open Go.RowKit

def dishOk (x : Dish) : Bool := inR x.prep 0 30 && inR x.cook 0 30
def dishesOk (l : List Dish) : Bool := decide (l.length ≤ 6) && l.all dishOk
def spansOk (xs : List Int) : Bool := decide (xs.length ≤ 6) && rangeOk 30 xs

theorem dishesOk_len {l : List Dish} (h : dishesOk l = true) : l.length ≤ 6 := by
  unfold dishesOk at h
  simp at h
  exact h.1
theorem dishesOk_at {l : List Dish} (h : dishesOk l = true) {x : Dish} (hx : x ∈ l) : 0 ≤ x.prep ∧ x.prep ≤ 30 ∧ 0 ≤ x.cook ∧ x.cook ≤ 30 := by
  unfold dishesOk at h
  simp only [Bool.and_eq_true, List.all_eq_true] at h
  have := h.2 x hx
  unfold dishOk at this
  simp only [Bool.and_eq_true, inR_iff] at this
  omega
theorem spansOk_len {l : List Int} (h : spansOk l = true) : l.length ≤ 6 := by
  unfold spansOk at h
  simp at h
  exact h.1
theorem spansOk_range {l : List Int} (h : spansOk l = true) : rangeOk 30 l = true := by
  unfold spansOk at h
  simp only [Bool.and_eq_true] at h
  exact h.2
theorem spansOk_at {l : List Int} (h : spansOk l = true) {i : Nat} {r : Int} (hr : l[i]? = some r) : 0 ≤ r ∧ r ≤ 30 := rangeOk_at (spansOk_range h) hr

def burnFit (spans : List Int) (b : Int) : Bool := spansOk spans && inR b 1 3
def burnOkL (spans : List Int) (b : Int) (on : List Int) : Bool := burnFit spans b && (decide ((on.length : Int) = (spans.length : Int)) && rangeOk (b - 1) on)

theorem burnFit_parts {spans : List Int} {b : Int} (h : burnFit spans b = true) : spansOk spans = true ∧ ∃ n : Nat, b = n ∧ 1 ≤ n ∧ n ≤ 3 := by
  unfold burnFit at h
  simp only [Bool.and_eq_true, inR_iff] at h
  exact ⟨h.1, b.toNat, by omega, by omega, by omega⟩

theorem rangeOk_false_at {m : Int} {xs : List Int} {i : Nat} {p : Int} (hp : xs[i]? = some p) (h : inR p 0 m = false) : rangeOk m xs = false := by
  unfold rangeOk
  cases e : xs.all (fun x => inR x 0 m) with
  | false => rfl
  | true => rw [List.all_eq_true.1 e p (List.mem_of_getElem? hp)] at h; cases h

end Go.Proofs.YtgagfaajilbmmaaDoor
