/- Contracts of StartsOk, of the program and of the reference model: both compute one function of the arguments.
   Conditions: the lists and each task's numbers have at most 1048576 elements. -/
import Derived.Test.YtgagfaajilbmmaaTaskOk
import Derived.Test.YtgagfaajilbmmaaOk
import Derived.Test.YtgagfaajilbmmaaCook1
namespace Go.Proofs.Ytgagfaajilbmmaa
open Go.RowKit

def precOk (l : List Task) (ss : List Int) (s : Int) : List Int → Bool
  | [] => true
  | a :: r => decide (¬ s < ss.getD a.toNat 0 + (l.getD a.toNat default).span) && precOk l ss s r
def startsGo (l : List Task) (ss : List Int) : Nat → List Task → Bool
  | _, [] => true
  | k, x :: r => precOk l ss (ss.getD k 0) x.after && startsGo l ss (k + 1) r
def startsOkL (l : List Task) (ss : List Int) : Bool := tasksOk l && ((decide ((ss.length : Int) = l.length) && rangeOk 9999 ss) && startsGo l ss 0 l)

theorem ascGo_at {limit : Int} : ∀ {xs : List Int} {least : Int}, 0 ≤ least → ascGo limit least xs = true → ∀ a ∈ xs, 0 ≤ a ∧ a < limit
  | [], _, _, _, a, ha => by simp at ha
  | p :: r, least, h0, h, a, ha => by
    unfold ascGo at h
    simp only [Bool.and_eq_true, inR_iff] at h
    rcases List.mem_cons.1 ha with rfl | ha
    · omega
    · exact ascGo_at (xs := r) (least := p + 1) (by omega) h.2 a ha

theorem tasksGo_at : ∀ {l : List Task} {k0 : Nat}, tasksGo k0 l = true → ∀ {i : Nat} {x : Task}, l[i]? = some x → (0 ≤ x.span ∧ x.span ≤ 30) ∧ ∀ a ∈ x.after, 0 ≤ a ∧ a < ((k0 + i : Nat) : Int)
  | [], _, _, i, x, hx => by simp at hx
  | y :: r, k0, h, i, x, hx => by
    unfold tasksGo taskOk at h
    simp only [Bool.and_eq_true] at h
    obtain ⟨⟨h1, h2⟩, h3⟩ := h
    cases i with
    | zero =>
      obtain rfl : y = x := by simpa using hx
      exact ⟨inR_iff.1 h1, fun a ha => by have := ascGo_at (by omega) h2 a ha; omega⟩
    | succ i =>
      have := tasksGo_at (l := r) (k0 := k0 + 1) (by rw [show ((k0 + 1 : Nat) : Int) = (k0 : Int) + 1 from by omega]; exact h3) (i := i) (x := x) (by simpa using hx)
      rw [show k0 + (i + 1) = k0 + 1 + i from by omega]
      exact this

theorem tasksOk_at {l : List Task} (h : tasksOk l = true) {i : Nat} {x : Task} (hx : l[i]? = some x) : (0 ≤ x.span ∧ x.span ≤ 30) ∧ ∀ a ∈ x.after, 0 ≤ a ∧ a < (i : Int) := by
  unfold tasksOk at h
  simp only [Bool.and_eq_true] at h
  have := tasksGo_at (k0 := 0) h.2 hx
  rwa [Nat.zero_add] at this

end Go.Proofs.Ytgagfaajilbmmaa
