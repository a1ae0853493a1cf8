/- Contracts of inSet and l1Join: sets as numbers below 64.
   Conditions: both sets are in 0..63, the index in 0..5. -/
import Derived.Test.YtmepnilnlpoodaaDoorInts
namespace Go.Proofs.YtmepnilnlpoodaaDoor
open Go.RowKit

/-- Is k in the set s? -/
def hasB (s : Int) (k : Nat) : Bool := s / 2 ^ k % 2 == 1

def orI (a b : Int) : Int := ((a.toNat ||| b.toNat : Nat) : Int)

theorem orI_lt {a b : Int} (ha : a < 64) (hb : b < 64) : 0 ≤ orI a b ∧ orI a b < 64 := by
  unfold orI
  have := Nat.or_lt_two_pow (n := 6) (x := a.toNat) (y := b.toNat) (by omega) (by omega)
  omega

theorem and_one : ∀ x : Fin 64, bits .and .i64 (x.val : Int) 1 = (x.val : Int) % 2 := by decide +kernel

theorem and_one' (x : Int) (h0 : 0 ≤ x) (h1 : x < 64) : bits .and .i64 x 1 = x % 2 := by
  have := and_one ⟨x.toNat, by omega⟩
  simpa [Int.toNat_of_nonneg h0] using this

theorem or_all : ∀ x y : Fin 64, bits .or .i64 (x.val : Int) (y.val : Int) = ((x.val ||| y.val : Nat) : Int) := by decide +kernel

theorem or_all' (x y : Int) (h0 : 0 ≤ x) (h1 : x < 64) (k0 : 0 ≤ y) (k1 : y < 64) : bits .or .i64 x y = orI x y := by
  have := or_all ⟨x.toNat, by omega⟩ ⟨y.toNat, by omega⟩
  unfold orI
  simpa [Int.toNat_of_nonneg h0, Int.toNat_of_nonneg k0] using this

theorem div_range (s : Int) (k : Nat) (h0 : 0 ≤ s) (h1 : s < 64) : 0 ≤ s / 2 ^ k ∧ s / 2 ^ k < 64 :=
  ⟨Int.ediv_nonneg h0 (Int.pow_nonneg (by omega)), Int.lt_of_le_of_lt (Int.ediv_le_self _ h0) h1⟩

set_option maxHeartbeats 400000 in
theorem inSet_any (s k : Int) (w : World) (h0 : 0 ≤ s) (h1 : s < 64) (h2 : 0 ≤ k) (h3 : k < 6) :
    Calls Tryd.prog 144 #[.int .i64 s, .int .i64 k] w fun e w' => e = .returned (.bool (hasB s k.toNat)) ∧ w' = w := by
  have hd := div_range s k.toNat h0 h1
  have HA := hide (and_one' _ hd.1 hd.2)
  clear hd
  go_enter Tryd.func144, Tryd.ntmps144
  go_wp2_with fail
  go_ret
  exact ⟨by rw [HA.out]; rfl, rfl⟩

theorem or_step (a b k : Nat) : (a ||| b) % 2 ^ (k + 1) = (a ||| b) % 2 ^ k + (if a / 2 ^ k % 2 = 1 ∨ b / 2 ^ k % 2 = 1 then 2 ^ k else 0) := by
  rw [Nat.mod_pow_succ]
  congr 1
  have h : (a ||| b).testBit k = (a.testBit k || b.testBit k) := Nat.testBit_or ..
  simp only [Nat.testBit_eq_decide_div_mod_eq] at h
  by_cases h1 : a / 2 ^ k % 2 = 1 ∨ b / 2 ^ k % 2 = 1
  · rw [if_pos h1]
    have : (a ||| b) / 2 ^ k % 2 = 1 := by
      have e : (decide (a / 2 ^ k % 2 = 1) || decide (b / 2 ^ k % 2 = 1)) = true := by simpa using h1
      rw [e] at h
      exact of_decide_eq_true h
    rw [this, Nat.mul_one]
  · rw [if_neg h1]
    have : ¬ (a ||| b) / 2 ^ k % 2 = 1 := by
      have e : (decide (a / 2 ^ k % 2 = 1) || decide (b / 2 ^ k % 2 = 1)) = false := by simpa using h1
      rw [e] at h
      exact of_decide_eq_false h
    have : (a ||| b) / 2 ^ k % 2 = 0 := by omega
    rw [this, Nat.mul_zero]

/-- What l1Join knows: bit is a power of two, out the union below it. -/
def JoinTo (a b out bit : Int) : Prop := ∃ k : Nat, bit = ((2 ^ k : Nat) : Int) ∧ out = (((a.toNat ||| b.toNat) % 2 ^ k : Nat) : Int)

theorem JoinTo.step {a b out bit : Int} (ha : 0 ≤ a) (hb : 0 ≤ b) (h : JoinTo a b out bit) : JoinTo a b (if a / bit % 2 = 1 ∨ b / bit % 2 = 1 then out + bit else out) (2 * bit) := by
  obtain ⟨k, rfl, rfl⟩ := h
  refine ⟨k + 1, by rw [Nat.pow_succ]; omega, ?_⟩
  rw [or_step]
  have e : ∀ x : Int, 0 ≤ x → (x / ((2 ^ k : Nat) : Int) % 2 = 1 ↔ x.toNat / 2 ^ k % 2 = 1) := by
    intro x hx
    obtain ⟨n, rfl⟩ := Int.eq_ofNat_of_zero_le hx
    rw [Int.toNat_natCast, ← Int.natCast_ediv]
    omega
  simp only [e a ha, e b hb]
  split
  · omega
  · simp

theorem JoinTo.lt {a b out bit : Int} (h : JoinTo a b out bit) : out < bit := by
  obtain ⟨k, rfl, rfl⟩ := h
  have := Nat.mod_lt (a.toNat ||| b.toNat) (Nat.two_pow_pos k)
  omega

theorem JoinTo.done {a b out bit : Int} (ha : 0 ≤ a) (hb : 0 ≤ b) (h : JoinTo a b out bit) (h1 : a < bit) (h2 : b < bit) : out = orI a b := by
  obtain ⟨k, rfl, rfl⟩ := h
  unfold orI
  rw [Nat.mod_eq_of_lt (Nat.or_lt_two_pow (by omega) (by omega))]

set_option maxHeartbeats 1000000 in
theorem l1Join_any (a b : Int) (w : World) (h0 : 0 ≤ a) (h1 : a < 64) (h2 : 0 ≤ b) (h3 : b < 64) :
    Calls Tryd.prog 113 #[.int .i64 a, .int .i64 b] w fun e w' => e = .returned (.int .i64 (orI a b)) ∧ w' = w := by
  go_enter Tryd.func113, Tryd.ntmps113
  go_wp2_with fail
  go_loopw [5, 6] (fun o i wr => ∃ out bit : Int, 1 ≤ bit ∧ bit ≤ 128 ∧ 0 ≤ out ∧ out ≤ 128 ∧ o = .int .i64 out ∧ i = .int .i64 bit ∧ Hid (JoinTo a b out bit) ∧ wr = w) (fun _ i _ => (128 - intOf i).toNat)
  case atStart => exact ⟨0, 1, by omega, by omega, by omega, by omega, rfl, rfl, hide ⟨0, rfl, by simp [Nat.mod_one]⟩, rfl⟩
  case round =>
    obtain ⟨out, bit, hb0, hb1, ho0, ho1, rfl, rfl, HJ, rfl⟩ := hrel
    have hda : 0 ≤ a / bit := Int.ediv_nonneg h0 (by omega)
    have hdb : 0 ≤ b / bit := Int.ediv_nonneg h2 (by omega)
    have hJ := hide (HJ.out.step h0 h2)
    have hob := HJ.out.lt
    by_cases hm : bit ≤ (if a < b then b else a)
    · have hm' : bit < 64 := by split at hm <;> omega
      by_cases e1 : a / bit % 2 = 1
      · have f1 : (a / bit % 2 == 1) = true := by simp [e1]
        have HS : Hid (JoinTo a b (out + bit) (2 * bit)) := hide (by have := hJ.out; rwa [if_pos (.inl e1)] at this)
        clear e1
        go_wp2_with fail
        all_goals (refine ⟨⟨_, _, by omega, by omega, by omega, ?_, rfl, rfl, HS, trivial⟩, by simp [intOf]; omega⟩)
        all_goals omega
      · have f1 : (a / bit % 2 == 1) = false := by simp [e1]
        by_cases e2 : b / bit % 2 = 1
        · have f2 : (b / bit % 2 == 1) = true := by simp [e2]
          have HS : Hid (JoinTo a b (out + bit) (2 * bit)) := hide (by have := hJ.out; rwa [if_pos (.inr e2)] at this)
          clear e1 e2
          go_wp2_with fail
          all_goals (refine ⟨⟨_, _, by omega, by omega, by omega, ?_, rfl, rfl, HS, trivial⟩, by simp [intOf]; omega⟩)
          all_goals omega
        · have f2 : (b / bit % 2 == 1) = false := by simp [e2]
          have HS : Hid (JoinTo a b out (2 * bit)) := hide (by have := hJ.out; rwa [if_neg (not_or.2 ⟨e1, e2⟩)] at this)
          clear e1 e2
          go_wp2_with fail
          all_goals (refine ⟨⟨_, _, by omega, by omega, by omega, ?_, rfl, rfl, HS, trivial⟩, by simp [intOf]; omega⟩)
          all_goals omega
    · have HE : Hid (orI a b = out) := hide (HJ.out.done h0 h2 (by split at hm <;> omega) (by split at hm <;> omega)).symm
      go_wp2_with fail
      all_goals go_ret
      all_goals exact ⟨by rw [HE.out]; rfl, rfl⟩
end Go.Proofs.YtmepnilnlpoodaaDoor
