/- Contracts of inSet and l1Join: sets as numbers below 64.
   Conditions: both sets are in 0..63, the index in 0..5. -/
import Derived.Test.YtaelapimchmbcaaDoorInts
namespace Go.Proofs.YtaelapimchmbcaaDoor
open Go.RowKit

/-- Is k in the set s? -/
def hasB (s : Int) (k : Nat) : Bool := s / 2 ^ k % 2 == 1

def orI (a b : Int) : Int := ((a.toNat ||| b.toNat : Nat) : Int)

theorem orI_lt {a b : Int} (ha : a < 64) (hb : b < 64) : 0 ≤ orI a b ∧ orI a b < 64 := by
  unfold orI
  have := Nat.or_lt_two_pow (n := 6) (x := a.toNat) (y := b.toNat) (by omega) (by omega)
  omega

theorem and_one : ∀ x : Fin 64, bits .and .i64 (x.val : Int) 1 = (x.val : Int) % 2 := by decide +kernel

theorem and_one' (x : Int) (h0 : 0 ≤ x) (h1 : x < 64) : bits .and .i64 x 1 = x % 2 := by
  have := and_one ⟨x.toNat, by omega⟩
  simpa [Int.toNat_of_nonneg h0] using this

theorem or_all : ∀ x y : Fin 64, bits .or .i64 (x.val : Int) (y.val : Int) = ((x.val ||| y.val : Nat) : Int) := by decide +kernel

theorem or_all' (x y : Int) (h0 : 0 ≤ x) (h1 : x < 64) (k0 : 0 ≤ y) (k1 : y < 64) : bits .or .i64 x y = orI x y := by
  have := or_all ⟨x.toNat, by omega⟩ ⟨y.toNat, by omega⟩
  unfold orI
  simpa [Int.toNat_of_nonneg h0, Int.toNat_of_nonneg k0] using this

theorem div_range (s : Int) (k : Nat) (h0 : 0 ≤ s) (h1 : s < 64) : 0 ≤ s / 2 ^ k ∧ s / 2 ^ k < 64 :=
  ⟨Int.ediv_nonneg h0 (Int.pow_nonneg (by omega)), Int.lt_of_le_of_lt (Int.ediv_le_self _ h0) h1⟩

theorem or_step (a b k : Nat) : (a ||| b) % 2 ^ (k + 1) = (a ||| b) % 2 ^ k + (if a / 2 ^ k % 2 = 1 ∨ b / 2 ^ k % 2 = 1 then 2 ^ k else 0) := by
  rw [Nat.mod_pow_succ]
  congr 1
  have h : (a ||| b).testBit k = (a.testBit k || b.testBit k) := Nat.testBit_or ..
  simp only [Nat.testBit_eq_decide_div_mod_eq] at h
  by_cases h1 : a / 2 ^ k % 2 = 1 ∨ b / 2 ^ k % 2 = 1
  · rw [if_pos h1]
    have : (a ||| b) / 2 ^ k % 2 = 1 := by
      have e : (decide (a / 2 ^ k % 2 = 1) || decide (b / 2 ^ k % 2 = 1)) = true := by simpa using h1
      rw [e] at h
      exact of_decide_eq_true h
    rw [this, Nat.mul_one]
  · rw [if_neg h1]
    have : ¬ (a ||| b) / 2 ^ k % 2 = 1 := by
      have e : (decide (a / 2 ^ k % 2 = 1) || decide (b / 2 ^ k % 2 = 1)) = false := by simpa using h1
      rw [e] at h
      exact of_decide_eq_false h
    have : (a ||| b) / 2 ^ k % 2 = 0 := by omega
    rw [this, Nat.mul_zero]

/-- What l1Join knows: bit is a power of two, out the union below it. -/
def JoinTo (a b out bit : Int) : Prop := ∃ k : Nat, bit = ((2 ^ k : Nat) : Int) ∧ out = (((a.toNat ||| b.toNat) % 2 ^ k : Nat) : Int)

theorem JoinTo.step {a b out bit : Int} (ha : 0 ≤ a) (hb : 0 ≤ b) (h : JoinTo a b out bit) : JoinTo a b (if a / bit % 2 = 1 ∨ b / bit % 2 = 1 then out + bit else out) (2 * bit) := by
  obtain ⟨k, rfl, rfl⟩ := h
  refine ⟨k + 1, by rw [Nat.pow_succ]; omega, ?_⟩
  rw [or_step]
  have e : ∀ x : Int, 0 ≤ x → (x / ((2 ^ k : Nat) : Int) % 2 = 1 ↔ x.toNat / 2 ^ k % 2 = 1) := by
    intro x hx
    obtain ⟨n, rfl⟩ := Int.eq_ofNat_of_zero_le hx
    rw [Int.toNat_natCast, ← Int.natCast_ediv]
    omega
  simp only [e a ha, e b hb]
  split
  · omega
  · simp

theorem JoinTo.lt {a b out bit : Int} (h : JoinTo a b out bit) : out < bit := by
  obtain ⟨k, rfl, rfl⟩ := h
  have := Nat.mod_lt (a.toNat ||| b.toNat) (Nat.two_pow_pos k)
  omega

theorem JoinTo.done {a b out bit : Int} (ha : 0 ≤ a) (hb : 0 ≤ b) (h : JoinTo a b out bit) (h1 : a < bit) (h2 : b < bit) : out = orI a b := by
  obtain ⟨k, rfl, rfl⟩ := h
  unfold orI
  rw [Nat.mod_eq_of_lt (Nat.or_lt_two_pow (by omega) (by omega))]

end Go.Proofs.YtaelapimchmbcaaDoor
