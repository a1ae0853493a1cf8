/- Contracts of TakeDo, of the program and of the reference model: both make one list of lots, which the call owns.
   Conditions: lists have at most 1048576 elements. -/
import Derived.Test.YtefpifpalnafmaaDoorTake
import Derived.Test.YtefpifpalnafmaaDoorTab
namespace Go.Proofs.YtefpifpalnafmaaDoor
open Go.RowKit

def takeDoGo : List Lot → List Int → List Lot
  | x :: r, t :: s => ⟨x.many - t, x.last⟩ :: takeDoGo r s
  | _, _ => []
def takeDoL (l : List Lot) (day : Int) (take : List Int) : List Lot := if takeOkL l day take = true then takeDoGo l take else []

theorem takeDoGo_len : ∀ (l : List Lot) (take : List Int), take.length = l.length → (takeDoGo l take).length = l.length
  | [], [], _ => rfl
  | x :: r, t :: s, h => by simp only [takeDoGo, List.length_cons]; rw [takeDoGo_len r s (by simpa using h)]
  | [], _ :: _, h => by simp at h
  | _ :: _, [], h => by simp at h

theorem takeDoGo_at : ∀ {l : List Lot} {take : List Int} {k : Nat} {x : Lot} {t : Int}, l[k]? = some x → take[k]? = some t → (takeDoGo l take)[k]? = some ⟨x.many - t, x.last⟩
  | [], _, k, x, t, h, _ => by simp at h
  | _ :: _, [], k, x, t, _, h => by simp at h
  | y :: r, u :: s, 0, x, t, h, h' => by
    obtain rfl : y = x := by simpa using h
    obtain rfl : u = t := by simpa using h'
    rfl
  | y :: r, u :: s, k + 1, x, t, h, h' => by
    simp only [takeDoGo, List.getElem?_cons_succ]
    exact takeDoGo_at (by simpa using h) (by simpa using h')

theorem takeGo_at {day : Int} : ∀ {l : List Lot} {take : List Int} {k : Nat} {x : Lot} {t : Int}, takeGo day l take = true → l[k]? = some x → take[k]? = some t → 0 ≤ t ∧ t ≤ usab x day
  | [], _, k, x, t, _, h, _ => by simp at h
  | _ :: _, [], k, x, t, _, _, h => by simp at h
  | y :: r, u :: s, k, x, t, hg, h, h' => by
    unfold takeGo at hg
    simp only [Bool.and_eq_true, inR_iff] at hg
    cases k with
    | zero =>
      obtain rfl : y = x := by simpa using h
      obtain rfl : u = t := by simpa using h'
      exact hg.1
    | succ k => exact takeGo_at hg.2 (by simpa using h) (by simpa using h')

theorem takeOkL_parts {l : List Lot} {day : Int} {take : List Int} (h : takeOkL l day take = true) : lotsOk l = true ∧ take.length = l.length ∧ takeGo day l take = true := by
  unfold takeOkL at h
  simp only [Bool.and_eq_true, decide_eq_true_eq] at h
  exact ⟨h.1, h.2.1, h.2.2⟩

theorem takeDoL_len (l : List Lot) (day : Int) (take : List Int) : (takeDoL l day take).length ≤ l.length := by
  unfold takeDoL
  split
  · rename_i h
    rw [takeDoGo_len _ _ (takeOkL_parts h).2.1]
    exact Nat.le_refl _
  · simp

end Go.Proofs.YtefpifpalnafmaaDoor
