/- What a plan costs when one more run is made, and when all prices double.
   Conditions: none. -/
import Derived.Test.YtjegebnnlomcpaaDoorPlanMath
import Derived.Test.YtjegebnnlomcpaaDoorCost
namespace Go.Proofs.YtjegebnnlomcpaaDoor
open Go.RowKit

theorem costTo_double {l : List Item} {runs prices : List Int} : ∀ k, costTo l runs (prices.map (fun p => 2 * p)) k = 2 * costTo l runs prices k
  | 0 => rfl
  | k + 1 => by
    have hg : (prices.map (fun p => 2 * p)).getD k 0 = 2 * prices.getD k 0 := by
      rw [List.getD_eq_getElem?_getD, List.getElem?_map, List.getD_eq_getElem?_getD]
      cases prices[k]? <;> simp
    rw [show costTo l runs (prices.map (fun p => 2 * p)) (k + 1) = costTo l runs (prices.map (fun p => 2 * p)) k + (if (l.getD k instItem.default).yield = 0 then runs.getD k 0 * (prices.map (fun p => 2 * p)).getD k 0 else 0) from rfl, costTo_double k, hg,
      show costTo l runs prices (k + 1) = costTo l runs prices k + (if (l.getD k instItem.default).yield = 0 then runs.getD k 0 * prices.getD k 0 else 0) from rfl]
    split
    · rw [Int.mul_add, Int.mul_left_comm]
    · omega
theorem costTo_set {l : List Item} {runs prices : List Int} {k : Nat} (hk : k < runs.length) : ∀ m, costTo l (runs.set k (runs.getD k 0 + 1)) prices m = costTo l runs prices m + (if k < m ∧ (l.getD k instItem.default).yield = 0 then prices.getD k 0 else 0)
  | 0 => by simp [costTo]
  | m + 1 => by
    have hg : (runs.set k (runs.getD k 0 + 1)).getD m 0 = if m = k then runs.getD k 0 + 1 else runs.getD m 0 := by
      rw [List.getD_eq_getElem?_getD, List.getElem?_set]
      by_cases e : k = m
      · subst e
        rw [if_pos rfl, if_pos hk, if_pos rfl]; rfl
      · rw [if_neg e, if_neg (fun h => e h.symm), List.getD_eq_getElem?_getD]
    rw [show costTo l (runs.set k (runs.getD k 0 + 1)) prices (m + 1) = costTo l (runs.set k (runs.getD k 0 + 1)) prices m + (if (l.getD m instItem.default).yield = 0 then (runs.set k (runs.getD k 0 + 1)).getD m 0 * prices.getD m 0 else 0) from rfl, costTo_set hk m, hg,
      show costTo l runs prices (m + 1) = costTo l runs prices m + (if (l.getD m instItem.default).yield = 0 then runs.getD m 0 * prices.getD m 0 else 0) from rfl]
    by_cases e : m = k
    · subst e
      rw [if_pos rfl, if_neg (fun h => absurd h.1 (by omega))]
      by_cases h0 : (l.getD m instItem.default).yield = 0
      · have h5 : m < m + 1 ∧ (l.getD m instItem.default).yield = 0 := ⟨by omega, h0⟩
        rw [if_pos h0, if_pos h0, if_pos h5, Int.add_mul]; omega
      · have h5 : ¬ (m < m + 1 ∧ (l.getD m instItem.default).yield = 0) := fun h => h0 h.2
        rw [if_neg h0, if_neg h0, if_neg h5]
        try omega
    · rw [if_neg e]
      generalize (if (l.getD m instItem.default).yield = 0 then runs.getD m 0 * prices.getD m 0 else 0) = t
      by_cases h1 : k < m ∧ (l.getD k instItem.default).yield = 0
      · have h6 : k < m + 1 ∧ (l.getD k instItem.default).yield = 0 := ⟨by have := h1.1; omega, h1.2⟩
        rw [if_pos h1, if_pos h6]; omega
      · have h6 : ¬ (k < m + 1 ∧ (l.getD k instItem.default).yield = 0) := fun h => h1 ⟨by have := h.1; omega, h.2⟩
        rw [if_neg h1, if_neg h6]; omega

theorem costL_parts {l : List Item} {prices runs : List Int} (h : ¬ costL l prices runs < 0) : pricesOk l prices = true ∧ runs.length = l.length ∧ rangeOk 9999999 runs = true ∧ costL l prices runs = costTo l runs prices l.length := by
  unfold costL at h ⊢
  split at h
  · rename_i hc
    rw [if_pos hc]
    simp only [Bool.and_eq_true, decide_eq_true_eq] at hc
    exact ⟨hc.1, by omega, hc.2.2, rfl⟩
  · exact absurd (show (-1 : Int) < 0 by omega) h
theorem costTo_rng {l : List Item} {runs prices : List Int} (hr : rangeOk 9999999 runs = true) (hp : rangeOk 20 prices = true) : ∀ k : Nat, 0 ≤ costTo l runs prices k ∧ costTo l runs prices k ≤ 199999980 * k
  | 0 => by simp [costTo]
  | k + 1 => by
    have ih := costTo_rng (l := l) hr hp k
    have a := getD_rng hr (by omega) k
    have b := getD_rng hp (by omega) k
    have c := mul_range a.1 a.2 b.1 b.2
    rw [show costTo l runs prices (k + 1) = costTo l runs prices k + (if (l.getD k instItem.default).yield = 0 then runs.getD k 0 * prices.getD k 0 else 0) from rfl]
    split <;> omega
theorem cost_low {l : List Item} {prices runs : List Int} (h : costL l prices runs < 0) : costL l prices runs = -1 := by
  unfold costL at h ⊢
  split
  · rename_i hc
    rw [if_pos hc] at h
    simp only [Bool.and_eq_true, decide_eq_true_eq] at hc
    have := costTo_rng (l := l) hc.2.2 (pricesOk_at hc.1).2.2 l.length
    omega
  · rfl
theorem cost_more {l : List Item} {prices runs : List Int} (h : ¬ costL l prices runs < 0) {k : Nat} (hk : k < l.length) (hr : runs.getD k 0 + 1 ≤ 9999999) :
    costL l prices (runs.set k (runs.getD k 0 + 1)) = costL l prices runs + (if (l.getD k instItem.default).yield = 0 then prices.getD k 0 else 0) := by
  obtain ⟨h1, h2, h3, h4⟩ := costL_parts h
  have hs : rangeOk 9999999 (runs.set k (runs.getD k 0 + 1)) = true := by
    unfold rangeOk
    rw [List.all_eq_true]
    intro x hx
    rcases List.mem_or_eq_of_mem_set hx with hx | hx
    · exact List.all_eq_true.1 h3 x hx
    · have := (getD_rng h3 (by omega) k).1
      exact inR_iff.2 ⟨by omega, by omega⟩
  rw [h4]
  unfold costL
  rw [h1, hs, List.length_set, decide_eq_true (by omega), if_pos (by rfl), costTo_set (by omega)]
  by_cases h0 : (l.getD k instItem.default).yield = 0
  · rw [if_pos h0, if_pos ⟨hk, h0⟩]
  · rw [if_neg h0, if_neg (fun h => h0 h.2)]
theorem cost_double {l : List Item} {prices runs : List Int} (h : ¬ costL l prices runs < 0) : costL l (prices.map (fun p => 2 * p)) runs = -1 ∨ costL l (prices.map (fun p => 2 * p)) runs = 2 * costL l prices runs := by
  obtain ⟨h1, h2, h3, h4⟩ := costL_parts h
  rw [h4, ← costTo_double]
  unfold costL
  split
  · exact .inr rfl
  · exact .inl rfl
end Go.Proofs.YtjegebnnlomcpaaDoor
