/- Who avoids nothing can have everything that is made: what the list of FreeOf has.
   Conditions: valid items. -/
import Derived.Test.YtigclhjkjhkbjaaDoorMarksMath
namespace Go.Proofs.YtigclhjkjhkbjaaDoor
open Go.RowKit

/-- No allergen below j is in both sets. -/
def dis (m a : Int) : Nat → Bool
  | 0 => true
  | j + 1 => dis m a j && (m / 2 ^ j % 2 == 0 || a / 2 ^ j % 2 == 0)

theorem dis_all : ∀ x y : Fin 32, dis (x.val : Int) (y.val : Int) 5 = meet0 x.val y.val := by decide +kernel
theorem dis_meet {x y : Int} (h0 : 0 ≤ x) (h1 : x ≤ 31) (k0 : 0 ≤ y) (k1 : y ≤ 31) : dis x y 5 = meet0 x y := by
  have := dis_all ⟨x.toNat, by omega⟩ ⟨y.toNat, by omega⟩
  simpa [Int.toNat_of_nonneg h0, Int.toNat_of_nonneg k0] using this
theorem meet0_zero : ∀ x : Fin 32, meet0 (x.val : Int) 0 = true := by decide +kernel
theorem meet0_none {x : Int} (h0 : 0 ≤ x) (h1 : x ≤ 31) : meet0 x 0 = true := by
  have := meet0_zero ⟨x.toNat, by omega⟩
  simpa [Int.toNat_of_nonneg h0] using this

theorem freeFrom_mem {l : List Item} {a : Int} : ∀ (r : List Item) (k : Nat) (n : Int), n ∈ freeFrom l a k r ↔ ∃ (j : Nat) (x : Item), r[j]? = some x ∧ n = ((k + j : Nat) : Int) ∧ (decide (0 < x.yield) && meet0 (marksL l ((k + j : Nat) : Int)) a) = true
  | [], _, _ => by simp [freeFrom]
  | x :: r, k, n => by
    rw [freeFrom, List.mem_append, freeFrom_mem r (k + 1) n]
    constructor
    · rintro (h | ⟨j, y, hj, h1, h2⟩)
      · split at h
        · rename_i hc
          exact ⟨0, x, rfl, by simpa using h, hc⟩
        · simp at h
      · have e : k + 1 + j = k + (j + 1) := by omega
        rw [e] at h1 h2
        exact ⟨j + 1, y, by simpa using hj, h1, h2⟩
    · rintro ⟨j, y, hj, h1, h2⟩
      cases j with
      | zero =>
        obtain rfl : x = y := by simpa using hj
        have h2' : (decide (0 < x.yield) && meet0 (marksL l (k : Int)) a) = true := h2
        exact .inl (by rw [if_pos h2']; simpa using h1)
      | succ j =>
        have e : k + 1 + j = k + (j + 1) := by omega
        exact .inr ⟨j, y, by simpa using hj, by rw [e]; exact h1, by rw [e]; exact h2⟩

theorem freeFrom_up {l : List Item} {a : Int} : ∀ (r : List Item) (k : Nat), (freeFrom l a k r).Pairwise (· < ·)
  | [], _ => .nil
  | x :: r, k => by
    rw [freeFrom, List.pairwise_append]
    refine ⟨by split <;> simp, freeFrom_up r (k + 1), fun u hu v hv => ?_⟩
    obtain ⟨j, y, _, h1, _⟩ := (freeFrom_mem r (k + 1) v).1 hv
    split at hu
    · have : u = k := by simpa using hu
      omega
    · simp at hu

theorem freeFrom_short (l : List Item) (a : Int) : ∀ (r : List Item) (k : Nat), (freeFrom l a k r).length ≤ r.length
  | [], _ => Nat.le_refl _
  | x :: r, k => by
    have := freeFrom_short l a r (k + 1)
    rw [freeFrom, List.length_append, List.length_cons]
    split <;> simp <;> omega

theorem freeL_short (l : List Item) (a : Int) : (freeL l a).length ≤ l.length := by
  unfold freeL
  split
  · exact freeFrom_short l a l 0
  · simp

theorem freeL_up {l : List Item} {a : Int} (i : Nat) (x y : Int) (hx : (freeL l a)[i]? = some x) (hy : (freeL l a)[i + 1]? = some y) : x < y := by
  have h : (freeL l a).Pairwise (· < ·) := by
    unfold freeL
    split
    · exact freeFrom_up l 0
    · exact .nil
  obtain ⟨h1, rfl⟩ := List.getElem?_eq_some_iff.1 hx
  obtain ⟨h2, rfl⟩ := List.getElem?_eq_some_iff.1 hy
  exact List.pairwise_iff_getElem.1 h i (i + 1) h1 h2 (by omega)

theorem freeL_any {l : List Item} {a : Int} (hok : itemsOk l = true) (h0 : 0 ≤ a) (h1 : a ≤ 31) {n : Nat} {x : Item} (hx : l[n]? = some x) : (freeL l a).any (· == (n : Int)) = (decide (0 < x.yield) && meet0 (marksL l n) a) := by
  unfold freeL
  rw [if_pos (by rw [hok, inR_iff.2 ⟨h0, h1⟩]; rfl)]
  apply Bool.eq_iff_iff.2
  rw [List.any_eq_true]
  simp only [beq_iff_eq]
  constructor
  · rintro ⟨m, hm, rfl⟩
    obtain ⟨j, y, hj, e, h⟩ := (freeFrom_mem l 0 _).1 hm
    have : n = j := by omega
    subst this
    rw [hx] at hj
    obtain rfl : x = y := by simpa using hj
    rw [Nat.zero_add] at h
    exact h
  · intro h
    exact ⟨n, (freeFrom_mem l 0 _).2 ⟨n, x, hx, by rw [Nat.zero_add], by rw [Nat.zero_add]; exact h⟩, rfl⟩

theorem freeL_none {l : List Item} {a : Int} (h : itemsOk l = false ∨ a < 0 ∨ 31 < a) : freeL l a = [] := by
  unfold freeL
  rw [if_neg]
  rw [Bool.and_eq_true, inR_iff]
  rintro ⟨h1, h2, h3⟩
  rcases h with h | h | h
  · rw [h] at h1; cases h1
  · omega
  · omega
end Go.Proofs.YtigclhjkjhkbjaaDoor
