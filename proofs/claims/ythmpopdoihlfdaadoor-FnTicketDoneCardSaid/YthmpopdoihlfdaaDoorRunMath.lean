/- What the law of WorkRun says, of the model.
   Conditions: none. -/
import Derived.Test.YthmpopdoihlfdaaDoorTickMath3
namespace Go.Proofs.YthmpopdoihlfdaaDoor
theorem runL_of {l : List (List Order)} {n : Int} (h : kitchenOkL l = true) (h0 : 0 ≤ n) (h1 : n ≤ 99) : workRunL l n = ((runGo n.toNat l).1, ((runGo n.toNat l).2 : Int)) := by
  unfold workRunL
  rw [h, inR_iff.2 ⟨h0, h1⟩]
  rfl
theorem runL_bad {l : List (List Order)} {n : Int} (h : ¬ (kitchenOkL l = true ∧ 0 ≤ n ∧ n ≤ 99)) : workRunL l n = ([], 0) := by
  unfold workRunL
  split
  · rename_i h2
    rw [Bool.and_eq_true, inR_iff] at h2
    exact absurd h2 h
  · rfl
theorem runL_rows (l : List (List Order)) (n : Int) : (workRunL l n).1.length ≤ 1048576 ∧ ∀ x ∈ (workRunL l n).1, x.length ≤ 1048576 := by
  by_cases h : kitchenOkL l = true ∧ 0 ≤ n ∧ n ≤ 99
  · rw [runL_of h.1 h.2.1 h.2.2]
    exact kitchenOk_rows (runGo_ok _ h.1)
  · rw [runL_bad h]
    simp
theorem runL_all {l : List (List Order)} (h : kitchenOkL l = true) : (workRunL l 99).2 = leftK l ∧ (workRunL l 99).1.length = l.length ∧ ∀ k, k < l.length → doneL ((workRunL l 99).1.getD k []) = true ∧ likeT (l.getD k []) ((workRunL l 99).1.getD k []) := by
  rw [runL_of h (by omega) (by omega)]
  obtain ⟨h1, h2⟩ := runGo_end h
  obtain ⟨h3, h4⟩ := runGo_like 99 h
  refine ⟨h1, h3, fun k hk => ⟨?_, h4 k hk⟩⟩
  have hk2 : k < (runGo 99 l).1.length := by omega
  have hm : (runGo 99 l).1.getD k [] ∈ (runGo 99 l).1 := by
    rw [List.getD_eq_getElem?_getD, List.getElem?_eq_getElem hk2]
    exact List.getElem_mem hk2
  exact List.all_eq_true.1 h2 _ hm
theorem runL_many {l : List (List Order)} {n : Int} (h : kitchenOkL l = true) (h0 : 0 ≤ n) (h1 : n ≤ 99) : (workRunL l n).2 = min n (leftK l) := by
  rw [runL_of h h0 h1]
  have := (runGo_many n.toNat h).1
  rw [Int.toNat_of_nonneg h0] at this
  exact this
theorem runL_two {l : List (List Order)} {n : Int} (h : kitchenOkL l = true) (h0 : 0 ≤ n) (h1 : n ≤ 99) : (workRunL (workRunL l (n / 2)).1 (n - n / 2)).1 = (workRunL l n).1 := by
  rw [runL_of h h0 h1, runL_of h (show 0 ≤ n / 2 by omega) (by omega), runL_of (runGo_ok _ h) (by omega) (by omega)]
  have := runGo_two (n / 2).toNat (n - n / 2).toNat h
  rw [show (n / 2).toNat + (n - n / 2).toNat = n.toNat from by omega] at this
  exact this.symm
end Go.Proofs.YthmpopdoihlfdaaDoor
