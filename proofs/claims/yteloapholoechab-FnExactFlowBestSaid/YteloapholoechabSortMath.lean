/- Insertion by exchanges with the one before, as slices' stable sort does it on few elements: on lists, by a key.
   Conditions: none. -/
import Derived.Test.YteloapholoechabSums
namespace Go.Proofs.Yteloapholoechab
open Go.RowKit

def cmpI (a b : Int) : Int := if a < b then -1 else if b < a then 1 else 0
def swapAt (xs : List Int) (j : Nat) : List Int := (xs.set (j + 1) (xs.getD j 0)).set j (xs.getD (j + 1) 0)
def sink (key : Int → Int) : Nat → List Int → List Int
  | 0, xs => xs
  | j + 1, xs => if key (xs.getD (j + 1) 0) < key (xs.getD j 0) then sink key j (swapAt xs j) else xs
def isortTo (key : Int → Int) (xs : List Int) : Nat → List Int
  | 0 => xs
  | k + 1 => sink key k (isortTo key xs k)

theorem sink_succ (key : Int → Int) (j : Nat) (xs : List Int) : sink key (j + 1) xs = if key (xs.getD (j + 1) 0) < key (xs.getD j 0) then sink key j (swapAt xs j) else xs := rfl

theorem cmpI_neg {a b : Int} : cmpI a b < 0 ↔ a < b := by
  unfold cmpI
  split
  · omega
  · split <;> omega

theorem swapAt_len (xs : List Int) (j : Nat) : (swapAt xs j).length = xs.length := by simp [swapAt]
theorem sink_len (key : Int → Int) : ∀ (j : Nat) (xs : List Int), (sink key j xs).length = xs.length
  | 0, _ => rfl
  | j + 1, xs => by
    unfold sink
    split
    · rw [sink_len key j, swapAt_len]
    · rfl
theorem isortTo_len (key : Int → Int) (xs : List Int) : ∀ k, (isortTo key xs k).length = xs.length
  | 0 => rfl
  | k + 1 => by rw [isortTo, sink_len, isortTo_len key xs k]

theorem swapAt_mem {xs : List Int} {j : Nat} (hj : j + 1 < xs.length) {y : Int} (h : y ∈ swapAt xs j) : y ∈ xs := by
  unfold swapAt at h
  rcases List.mem_or_eq_of_mem_set h with h | rfl
  · rcases List.mem_or_eq_of_mem_set h with h | rfl
    · exact h
    · simp [show j < xs.length by omega]
  · simp [hj]
theorem sink_mem (key : Int → Int) : ∀ (j : Nat) (xs : List Int) (y : Int), j < xs.length → y ∈ sink key j xs → y ∈ xs
  | 0, _, _, _, h => h
  | j + 1, xs, y, hj, h => by
    unfold sink at h
    split at h
    · exact swapAt_mem hj (sink_mem key j _ y (by rw [swapAt_len]; omega) h)
    · exact h
theorem isortTo_mem (key : Int → Int) (xs : List Int) (y : Int) : ∀ k, k ≤ xs.length → y ∈ isortTo key xs k → y ∈ xs
  | 0, _, h => h
  | k + 1, hk, h => isortTo_mem key xs y k (by omega) (sink_mem key k _ y (by rw [isortTo_len]; omega) h)

theorem sink_congr {key key' : Int → Int} : ∀ (j : Nat) (xs : List Int), j < xs.length → (∀ y ∈ xs, key y = key' y) → sink key j xs = sink key' j xs
  | 0, _, _, _ => rfl
  | j + 1, xs, hj, h => by
    unfold sink
    rw [h _ (by simp [hj] : xs.getD (j + 1) 0 ∈ xs), h _ (by simp [show j < xs.length by omega] : xs.getD j 0 ∈ xs)]
    split
    · exact sink_congr j _ (by rw [swapAt_len]; omega) (fun y hy => h y (swapAt_mem hj hy))
    · rfl
end Go.Proofs.Yteloapholoechab
