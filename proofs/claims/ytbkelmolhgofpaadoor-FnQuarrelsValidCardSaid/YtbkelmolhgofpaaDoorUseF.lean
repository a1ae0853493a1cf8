/- Contracts of UseFirst, UseMost, UseBound, SpoilLeast and LackLeast, of the program and of the reference model.
   Conditions: lists have at most 1048576 elements. -/
import Derived.Test.YtbkelmolhgofpaaDoorUseM
import Derived.Test.YtbkelmolhgofpaaDoorSlKit
namespace Go.Proofs.YtbkelmolhgofpaaDoor
open Go.RowKit

def useGo : Int → List Lot → List Int → List (List Int)
  | _, _, [] => []
  | day, l, q :: r => takeFirstL l day q :: useGo (day + 1) (takeDoL l day (takeFirstL l day q)) r
def useFirstL (l : List Lot) (wants : List Int) : List (List Int) := if stockOk l wants = true then useGo 0 l wants else []

theorem useGo_len : ∀ (day : Int) (l : List Lot) (r : List Int), (useGo day l r).length = r.length
  | _, _, [] => rfl
  | day, l, q :: r => by simp [useGo, useGo_len]

/-- What is left of the lots when so many days are over. -/
def lotsOn : Int → List Lot → List Int → Nat → List Lot
  | _, l, [], _ => l
  | _, l, _ :: _, 0 => l
  | day, l, q :: r, k + 1 => lotsOn (day + 1) (takeDoL l day (takeFirstL l day q)) r k
theorem lotsOn_zero (day : Int) (l : List Lot) (ws : List Int) : lotsOn day l ws 0 = l := by cases ws <;> rfl

theorem useGo_at : ∀ {day : Int} {l : List Lot} {wants : List Int} {k : Nat} {q : Int}, wants[k]? = some q → (useGo day l wants)[k]? = some (takeFirstL (lotsOn day l wants k) (day + k) q)
  | _, _, [], k, q, h => by simp at h
  | day, l, p :: r, 0, q, h => by
    obtain rfl : p = q := by simpa using h
    simp [useGo, lotsOn_zero]
  | day, l, p :: r, k + 1, q, h => by
    have := useGo_at (day := day + 1) (l := takeDoL l day (takeFirstL l day p)) (wants := r) (k := k) (q := q) (by simpa using h)
    simp only [useGo, List.getElem?_cons_succ, lotsOn]
    rw [this, show day + 1 + (k : Int) = day + ((k + 1 : Nat) : Int) from by omega]

theorem lotsOn_succ : ∀ {day : Int} {l : List Lot} {wants : List Int} {k : Nat} {q : Int}, wants[k]? = some q →
    lotsOn day l wants (k + 1) = takeDoL (lotsOn day l wants k) (day + k) (takeFirstL (lotsOn day l wants k) (day + k) q)
  | _, _, [], k, q, h => by simp at h
  | day, l, p :: r, 0, q, h => by
    obtain rfl : p = q := by simpa using h
    show lotsOn (day + 1) (takeDoL l day (takeFirstL l day p)) r 0 = _
    rw [lotsOn_zero, lotsOn_zero]
    simp
  | day, l, p :: r, k + 1, q, h => by
    have := lotsOn_succ (day := day + 1) (l := takeDoL l day (takeFirstL l day p)) (wants := r) (k := k) (q := q) (by simpa using h)
    simp only [lotsOn] at this ⊢
    rw [this, show day + 1 + (k : Int) = day + ((k + 1 : Nat) : Int) from by omega]

theorem lotsOn_len : ∀ (day : Int) (l : List Lot) (wants : List Int) (k : Nat), (lotsOn day l wants k).length ≤ l.length
  | _, _, [], _ => Nat.le_refl _
  | _, _, _ :: _, 0 => Nat.le_refl _
  | day, _, _ :: r, k + 1 => Nat.le_trans (lotsOn_len (day + 1) _ r k) (takeDoL_len _ _ _)

theorem stockOk_parts {l : List Lot} {xs : List Int} (h : stockOk l xs = true) : lotsOk l = true ∧ wantsOk xs = true := by
  unfold stockOk at h
  simpa using h

theorem wantsOk_at {xs : List Int} (h : wantsOk xs = true) : xs.length ≤ 6 ∧ ∀ x ∈ xs, 0 ≤ x ∧ x ≤ 50 := by
  unfold wantsOk at h
  simp only [Bool.and_eq_true, decide_eq_true_eq] at h
  refine ⟨h.1, fun x hx => ?_⟩
  have := h.2
  unfold rangeOk at this
  exact inR_iff.1 (List.all_eq_true.1 this x hx)

end Go.Proofs.YtbkelmolhgofpaaDoor
