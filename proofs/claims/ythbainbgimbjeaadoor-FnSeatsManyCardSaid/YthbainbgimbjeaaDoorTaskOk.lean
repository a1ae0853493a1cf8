/- Contracts of TasksValid and its helper, of the program and of the reference model: both compute one function of the list.
   Conditions: the list and each task's numbers have at most 1048576 elements. -/
import Derived.Test.YthbainbgimbjeaaDoorTasks
namespace Go.Proofs.YthbainbgimbjeaaDoor
open Go.RowKit

def ascGo (limit : Int) : Int → List Int → Bool
  | _, [] => true
  | least, n :: r => inR n least (limit - 1) && ascGo limit (n + 1) r

def taskOk (x : Task) (k : Int) : Bool := inR x.span 0 30 && ascGo k 0 x.after
def tasksGo : Int → List Task → Bool
  | _, [] => true
  | k, x :: r => taskOk x k && tasksGo (k + 1) r
def tasksOk (l : List Task) : Bool := decide (l.length ≤ 7) && tasksGo 0 l

theorem tasksOk_len {l : List Task} (h : tasksOk l = true) : l.length ≤ 7 := by
  unfold tasksOk at h
  simp only [Bool.and_eq_true, decide_eq_true_eq] at h
  exact h.1

def l1Asc (limit : Int) : Int → List Int → Bool
  | _, [] => true
  | prev, p :: r => inR p 0 (limit - 1) && (decide (prev < p) && l1Asc limit p r)

theorem l1Asc_eq (limit : Int) (xs : List Int) : ∀ prev, -1 ≤ prev → l1Asc limit prev xs = ascGo limit (prev + 1) xs := by
  induction xs with
  | nil => intro prev _; rfl
  | cons p r ih =>
    intro prev h
    have e1 : (inR p 0 (limit - 1) && decide (prev < p)) = inR p (prev + 1) (limit - 1) := by
      rw [Bool.eq_iff_iff]; simp only [Bool.and_eq_true, inR_iff, decide_eq_true_eq]; omega
    unfold l1Asc ascGo
    rw [← e1]
    cases h1 : inR p 0 (limit - 1)
    · rfl
    · rw [ih _ (by rw [inR_iff] at h1; omega)]
      cases decide (prev < p) <;> rfl

end Go.Proofs.YthbainbgimbjeaaDoor
