/- GuestMath: sets of guests as numbers below 64: without, in common, how many; plain mathematics.
   Conditions: sets are below 64. -/
import Derived.Test.YtgagfaajilbmmaaUses
import Derived.Test.YtgagfaajilbmmaaPopMath
namespace Go.Proofs.Ytgagfaajilbmmaa
open Go.RowKit

/-- All of so many guests. -/
def full (g : Int) : Int := 2 ^ g.toNat - 1
/-- What is in a and not in b. -/
def dropI (a b : Int) : Int := orI a b - b
/-- What is in both. -/
def meetI (a b : Int) : Int := a + b - orI a b
/-- How many are in a set. -/
def sz (s : Int) : Int := (popN s.toNat : Int)

theorem pow_range6 : ∀ n : Nat, n ≤ 6 → (1 : Int) ≤ 2 ^ n ∧ (2 : Int) ^ n ≤ 64 := by
  intro n hn
  match n, hn with
  | 0, _ => decide
  | 1, _ => decide
  | 2, _ => decide
  | 3, _ => decide
  | 4, _ => decide
  | 5, _ => decide
  | 6, _ => decide

theorem wrap_pow6 (n : Nat) (hn : n ≤ 6) : wrap64 (2 ^ n) = 2 ^ n := IntWalk.wrap64_in _ (by have := pow_range6 n hn; omega)

theorem full_range {g : Int} (h0 : 0 ≤ g) (h1 : g ≤ 6) : 0 ≤ full g ∧ full g < 64 := by
  have := pow_range6 g.toNat (by omega)
  unfold full
  omega

theorem andNot_all : ∀ x y : Fin 64, bits .andNot .i64 (x.val : Int) (y.val : Int) = dropI x.val y.val := by decide +kernel
theorem andNot_all' {x y : Int} (h0 : 0 ≤ x) (h1 : x < 64) (k0 : 0 ≤ y) (k1 : y < 64) : bits .andNot .i64 x y = dropI x y := by
  have := andNot_all ⟨x.toNat, by omega⟩ ⟨y.toNat, by omega⟩
  simpa [Int.toNat_of_nonneg h0, Int.toNat_of_nonneg k0] using this

theorem and_all : ∀ x y : Fin 64, bits .and .i64 (x.val : Int) (y.val : Int) = meetI x.val y.val := by decide +kernel
theorem and_all' {x y : Int} (h0 : 0 ≤ x) (h1 : x < 64) (k0 : 0 ≤ y) (k1 : y < 64) : bits .and .i64 x y = meetI x y := by
  have := and_all ⟨x.toNat, by omega⟩ ⟨y.toNat, by omega⟩
  simpa [Int.toNat_of_nonneg h0, Int.toNat_of_nonneg k0] using this

theorem drop_all : ∀ x y : Fin 64, 0 ≤ dropI x.val y.val ∧ dropI x.val y.val ≤ x.val ∧ 0 ≤ meetI x.val y.val ∧ meetI x.val y.val ≤ x.val ∧ sz (dropI x.val y.val) = sz x.val - sz (meetI x.val y.val) := by decide +kernel
theorem drop_range {x y : Int} (h0 : 0 ≤ x) (h1 : x < 64) (k0 : 0 ≤ y) (k1 : y < 64) : 0 ≤ dropI x y ∧ dropI x y ≤ x := by
  have := drop_all ⟨x.toNat, by omega⟩ ⟨y.toNat, by omega⟩
  simp only [Int.toNat_of_nonneg h0, Int.toNat_of_nonneg k0] at this
  exact ⟨this.1, this.2.1⟩
theorem meet_range {x y : Int} (h0 : 0 ≤ x) (h1 : x < 64) (k0 : 0 ≤ y) (k1 : y < 64) : 0 ≤ meetI x y ∧ meetI x y ≤ x := by
  have := drop_all ⟨x.toNat, by omega⟩ ⟨y.toNat, by omega⟩
  simp only [Int.toNat_of_nonneg h0, Int.toNat_of_nonneg k0] at this
  exact ⟨this.2.2.1, this.2.2.2.1⟩
theorem sz_drop {x y : Int} (h0 : 0 ≤ x) (h1 : x < 64) (k0 : 0 ≤ y) (k1 : y < 64) : sz (dropI x y) = sz x - sz (meetI x y) := by
  have := drop_all ⟨x.toNat, by omega⟩ ⟨y.toNat, by omega⟩
  simp only [Int.toNat_of_nonneg h0, Int.toNat_of_nonneg k0] at this
  exact this.2.2.2.2

theorem sz_range {x : Int} (h0 : 0 ≤ x) (h1 : x < 64) : 0 ≤ sz x ∧ sz x ≤ 6 := by
  have := popN_64 ⟨x.toNat, by omega⟩
  unfold sz
  simp only at this
  omega

theorem popAux_lt : ∀ (f x : Nat), Go.Lib.popAux f x ≤ f
  | 0, _ => Nat.le_refl _
  | f + 1, x => by
    have := popAux_lt f (x / 2)
    have h2 : x % 2 < 2 := Nat.mod_lt _ (by omega)
    rw [Go.Lib.popAux]
    omega

theorem sz_bound (x : Int) : 0 ≤ sz x ∧ sz x ≤ 64 := by
  have := popAux_lt 64 x.toNat
  unfold sz popN
  omega

theorem hasB_orI {a b : Int} (k : Nat) (ha : 0 ≤ a) (hb : 0 ≤ b) : hasB (orI a b) k = (hasB a k || hasB b k) := by
  have h : (0 : Int) ≤ orI a b := by unfold orI; omega
  rw [hasB_iff k h, hasB_iff k ha, hasB_iff k hb]
  unfold orI
  rw [Int.toNat_natCast, Nat.testBit_or]

theorem hasB_drop_all : ∀ (x y : Fin 64) (k : Fin 6), hasB (dropI x.val y.val) k.val = (hasB x.val k.val && !hasB y.val k.val) := by decide +kernel
theorem hasB_drop {x y : Int} (h0 : 0 ≤ x) (h1 : x < 64) (k0 : 0 ≤ y) (k1 : y < 64) (k : Nat) (hk : k < 6) : hasB (dropI x y) k = (hasB x k && !hasB y k) := by
  have := hasB_drop_all ⟨x.toNat, by omega⟩ ⟨y.toNat, by omega⟩ ⟨k, hk⟩
  simpa only [Int.toNat_of_nonneg h0, Int.toNat_of_nonneg k0] using this

theorem meet_zero_all : ∀ (x y : Fin 64), (meetI x.val y.val == 0) = decide (∀ k : Fin 6, (hasB x.val k.val && hasB y.val k.val) = false) := by decide +kernel
theorem meet_zero {x y : Int} (h0 : 0 ≤ x) (h1 : x < 64) (k0 : 0 ≤ y) (k1 : y < 64) : (meetI x y == 0) = true ↔ ∀ k : Nat, k < 6 → ¬ (hasB x k = true ∧ hasB y k = true) := by
  have h := meet_zero_all ⟨x.toNat, by omega⟩ ⟨y.toNat, by omega⟩
  simp only [Int.toNat_of_nonneg h0, Int.toNat_of_nonneg k0] at h
  rw [h, decide_eq_true_iff]
  constructor
  · intro hh k hk ⟨a, b⟩
    have := hh ⟨k, hk⟩
    simp only [a, b] at this
    exact absurd this (by decide)
  · intro hh k
    have := hh k.val k.isLt
    cases h1 : hasB x k.val <;> cases h2 : hasB y k.val <;> simp_all

theorem hasB_pow_all : ∀ (i : Fin 6) (k : Fin 6), hasB ((2 : Int) ^ i.val) k.val = (i.val == k.val) := by decide +kernel
theorem hasB_pow {i k : Nat} (hi : i < 6) (hk : k < 6) : hasB ((2 : Int) ^ i) k = (i == k) := hasB_pow_all ⟨i, hi⟩ ⟨k, hk⟩

theorem full_hasB_all : ∀ (g : Fin 7) (x : Fin 64), (x.val : Int) ≤ full g.val → ∀ k : Fin 6, hasB x.val k.val = true → k.val < g.val := by decide +kernel
theorem full_hasB {g x : Int} (g0 : 0 ≤ g) (g1 : g ≤ 6) (h0 : 0 ≤ x) (h1 : x ≤ full g) {k : Nat} (hk : k < 6) (h : hasB x k = true) : (k : Int) < g := by
  have hf := full_range g0 g1
  have := full_hasB_all ⟨g.toNat, by omega⟩ ⟨x.toNat, by omega⟩ (by simp only [Int.toNat_of_nonneg h0, Int.toNat_of_nonneg g0]; exact h1) ⟨k, hk⟩ (by simpa only [Int.toNat_of_nonneg h0] using h)
  simp only at this
  omega
end Go.Proofs.Ytgagfaajilbmmaa
