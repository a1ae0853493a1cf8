/- The least, the greatest and the first place of a number in a list; slices.Min, Max and Index at lists of numbers.
   Conditions: lists have at most 1048576 elements. -/
import Derived.Test.YtgagfaajilbmmaaSums
namespace Go.Proofs.Ytgagfaajilbmmaa
open Go.RowKit

def minFrom : Int → List Int → Int
  | m, [] => m
  | m, x :: r => minFrom (if x < m then x else m) r
def maxFrom : Int → List Int → Int
  | m, [] => m
  | m, x :: r => maxFrom (if m < x then x else m) r
def minL (xs : List Int) : Int := minFrom (xs.headD 0) xs.tail
def maxL (xs : List Int) : Int := maxFrom (xs.headD 0) xs.tail
def idxL (v : Int) : List Int → Nat
  | [] => 0
  | x :: r => if v = x then 0 else idxL v r + 1

theorem minFrom_le : ∀ (xs : List Int) (m : Int), minFrom m xs ≤ m ∧ ∀ x ∈ xs, minFrom m xs ≤ x
  | [], m => by simp [minFrom]
  | y :: r, m => by
    have ih := minFrom_le r (if y < m then y else m)
    unfold minFrom
    refine ⟨by have := ih.1; split at this <;> omega, fun x hx => ?_⟩
    rcases List.mem_cons.1 hx with rfl | hx
    · have := ih.1
      split at this <;> omega
    · exact ih.2 x hx
theorem minFrom_mem : ∀ (xs : List Int) (m : Int), minFrom m xs = m ∨ minFrom m xs ∈ xs
  | [], m => .inl rfl
  | y :: r, m => by
    unfold minFrom
    rcases minFrom_mem r (if y < m then y else m) with h | h
    · rw [h]
      split
      · exact .inr (by simp)
      · exact .inl rfl
    · exact .inr (by simp [h])
theorem maxFrom_le : ∀ (xs : List Int) (m : Int), m ≤ maxFrom m xs ∧ ∀ x ∈ xs, x ≤ maxFrom m xs
  | [], m => by simp [maxFrom]
  | y :: r, m => by
    have ih := maxFrom_le r (if m < y then y else m)
    unfold maxFrom
    refine ⟨by have := ih.1; split at this <;> omega, fun x hx => ?_⟩
    rcases List.mem_cons.1 hx with rfl | hx
    · have := ih.1
      split at this <;> omega
    · exact ih.2 x hx
theorem maxFrom_mem : ∀ (xs : List Int) (m : Int), maxFrom m xs = m ∨ maxFrom m xs ∈ xs
  | [], m => .inl rfl
  | y :: r, m => by
    unfold maxFrom
    rcases maxFrom_mem r (if m < y then y else m) with h | h
    · rw [h]
      split
      · exact .inr (by simp)
      · exact .inl rfl
    · exact .inr (by simp [h])
theorem minL_mem {xs : List Int} (h : 0 < xs.length) : minL xs ∈ xs := by
  cases xs with
  | nil => simp at h
  | cons x r =>
    rcases minFrom_mem r x with e | e
    · unfold minL; simp only [List.headD_cons, List.tail_cons, e]; simp
    · unfold minL; simp only [List.headD_cons, List.tail_cons]; simp [e]
theorem maxL_mem {xs : List Int} (h : 0 < xs.length) : maxL xs ∈ xs := by
  cases xs with
  | nil => simp at h
  | cons x r =>
    rcases maxFrom_mem r x with e | e
    · unfold maxL; simp only [List.headD_cons, List.tail_cons, e]; simp
    · unfold maxL; simp only [List.headD_cons, List.tail_cons]; simp [e]
theorem minL_le {xs : List Int} {x : Int} (h : x ∈ xs) : minL xs ≤ x := by
  cases xs with
  | nil => simp at h
  | cons y r =>
    have := minFrom_le r y
    unfold minL
    simp only [List.headD_cons, List.tail_cons]
    rcases List.mem_cons.1 h with rfl | h
    · exact this.1
    · exact this.2 x h
theorem maxL_le {xs : List Int} {x : Int} (h : x ∈ xs) : x ≤ maxL xs := by
  cases xs with
  | nil => simp at h
  | cons y r =>
    have := maxFrom_le r y
    unfold maxL
    simp only [List.headD_cons, List.tail_cons]
    rcases List.mem_cons.1 h with rfl | h
    · exact this.1
    · exact this.2 x h

theorem idxL_spec {v : Int} : ∀ {xs : List Int}, v ∈ xs → idxL v xs < xs.length ∧ xs.getD (idxL v xs) 0 = v ∧ ∀ j, j < idxL v xs → xs.getD j 0 ≠ v
  | [], h => by simp at h
  | x :: r, h => by
    unfold idxL
    by_cases e : v = x
    · rw [if_pos e]
      exact ⟨by simp, by simp [e], fun j hj => absurd hj (by omega)⟩
    · rw [if_neg e]
      have hr : v ∈ r := by
        rcases List.mem_cons.1 h with h | h
        · exact absurd h e
        · exact h
      have ih := idxL_spec hr
      refine ⟨by simp only [List.length_cons]; omega, by simpa using ih.2.1, fun j hj => ?_⟩
      cases j with
      | zero => simpa using Ne.symm e
      | succ j => simpa using ih.2.2 j (by omega)
theorem idxL_eq {v : Int} {j : Nat} : ∀ {xs : List Int}, j < xs.length → xs.getD j 0 = v → (∀ i, i < j → xs.getD i 0 ≠ v) → idxL v xs = j := by
  intro xs hj hv hn
  have hm : v ∈ xs := by rw [← hv]; simp [hj]
  have h := idxL_spec hm
  rcases Nat.lt_trichotomy (idxL v xs) j with e | e | e
  · exact absurd h.2.1 (hn _ e)
  · exact e
  · exact absurd hv (h.2.2 j e)

end Go.Proofs.Ytgagfaajilbmmaa
