/- Bills: valid shares, tips, valid debts; contracts of the program and of the reference model.
   Conditions: lists have at most 1048576 elements. -/
import Derived.Test.YtbkelmolhgofpabSums
namespace Go.Proofs.Ytbkelmolhgofpab
open Go.RowKit

def sharesOk (xs : List Int) : Bool := rangeOk 20 xs && (inR (xs.length : Int) 1 7 && decide (0 < sumW xs))
def tipL (s p : Int) : Int := if (inR s 0 9999 && inR p 0 100) = true then Int.tdiv (s * p + 99) 100 else -1
def owedIn (xs : List Int) : Bool := xs.all (fun x => inR x (-9999) 9999)
def owedOk (xs : List Int) : Bool := owedIn xs && (decide (xs.length ≤ 7) && (sumW xs == 0))

theorem sumW_nil : sumW [] = 0 := rfl

theorem sharesOk_len {xs : List Int} (h : sharesOk xs = true) : 1 ≤ xs.length ∧ xs.length ≤ 7 := by
  unfold sharesOk at h
  simp only [Bool.and_eq_true, inR_iff] at h
  omega

theorem sharesOk_range {xs : List Int} (h : sharesOk xs = true) : rangeOk 20 xs = true := by
  unfold sharesOk at h
  simp only [Bool.and_eq_true] at h
  exact h.1

theorem owedOk_len {xs : List Int} (h : owedOk xs = true) : xs.length ≤ 7 := by
  unfold owedOk at h
  simp only [Bool.and_eq_true, decide_eq_true_eq] at h
  omega

theorem owedOk_in {xs : List Int} (h : owedOk xs = true) : owedIn xs = true := by
  unfold owedOk at h
  simp only [Bool.and_eq_true] at h
  exact h.1

theorem owedIn_at {xs : List Int} (h : owedIn xs = true) {x : Int} (hx : x ∈ xs) : -9999 ≤ x ∧ x ≤ 9999 := by
  unfold owedIn at h
  exact inR_iff.1 (List.all_eq_true.1 h x hx)

theorem tip_range {s p : Int} (h0 : 0 ≤ s) (h1 : s ≤ 9999) (h2 : 0 ≤ p) (h3 : p ≤ 100) : 0 ≤ s * p ∧ s * p ≤ 999900 := by
  refine ⟨Int.mul_nonneg h0 h2, ?_⟩
  have := Int.mul_le_mul h1 h3 h2 (by omega)
  omega

end Go.Proofs.Ytbkelmolhgofpab
