/- Contracts of the sums of lists of numbers, of the program and of the reference model: both wrap as Go's int does.
   Conditions: lists have at most 1048576 elements. -/
import Derived.Test.YtefpifpalnafmaaDoorStock
import Derived.IntWalk
namespace Go.Proofs.YtefpifpalnafmaaDoor
open Go.RowKit

def sumGo : Int → List Int → Int
  | s, [] => s
  | s, x :: r => sumGo (wrap64 (s + x)) r
def sumW (xs : List Int) : Int := sumGo 0 xs

/-- The plain sum. -/
def sumL : List Int → Int
  | [] => 0
  | x :: r => x + sumL r

theorem sumGo_plain : ∀ (xs : List Int) (s lo hi : Int), (∀ x ∈ xs, lo ≤ x ∧ x ≤ hi) → lo ≤ 0 → 0 ≤ hi → -1000000000000 ≤ s + lo * xs.length → s + hi * xs.length ≤ 1000000000000 → sumGo s xs = s + sumL xs
  | [], s, lo, hi, _, _, _, _, _ => by simp [sumGo, sumL]
  | x :: r, s, lo, hi, h, hlo, hhi, h0, h1 => by
    have hx := h x (by simp)
    simp only [List.length_cons, Int.natCast_add, Int.natCast_one, Int.mul_add, Int.mul_one] at h0 h1
    have hm0 : lo * (r.length : Int) ≤ 0 := Int.mul_nonpos_of_nonpos_of_nonneg hlo (by omega)
    have hm1 : 0 ≤ hi * (r.length : Int) := Int.mul_nonneg hhi (by omega)
    unfold sumGo sumL
    rw [IntWalk.wrap64_in _ (by omega), sumGo_plain r (s + x) lo hi (fun y hy => h y (by simp [hy])) hlo hhi (by omega) (by omega)]
    omega

theorem sumW_plain {xs : List Int} {hi : Int} (h : ∀ x ∈ xs, 0 ≤ x ∧ x ≤ hi) (hh : 0 ≤ hi) (hb : hi * xs.length ≤ 1000000000000) : sumW xs = sumL xs := by
  unfold sumW
  rw [sumGo_plain xs 0 0 hi h (by omega) hh (by omega) (by omega)]
  omega

theorem sumL_range {xs : List Int} {hi : Int} (h : ∀ x ∈ xs, 0 ≤ x ∧ x ≤ hi) : 0 ≤ sumL xs ∧ sumL xs ≤ hi * xs.length := by
  induction xs with
  | nil => simp [sumL]
  | cons x r ih =>
    have := ih (fun y hy => h y (by simp [hy]))
    have hx := h x (by simp)
    simp only [sumL, List.length_cons, Int.natCast_add, Int.natCast_one, Int.mul_add, Int.mul_one]
    omega

end Go.Proofs.YtefpifpalnafmaaDoor
