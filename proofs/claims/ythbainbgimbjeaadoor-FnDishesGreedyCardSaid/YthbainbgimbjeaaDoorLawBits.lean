/- LawBits: how many bits a small number has, as the laws count them.
   Conditions: the number is below 128. -/
import Derived.Test.YthbainbgimbjeaaDoorZ3
namespace Go.Proofs.YthbainbgimbjeaaDoor
open Go.RowKit

def lowBits (n : Int) : Nat → Int
  | 0 => 0
  | k + 1 => lowBits n k + (if hasB n k = true then 1 else 0)
theorem lowBits_range (n : Int) : ∀ k : Nat, 0 ≤ lowBits n k ∧ lowBits n k ≤ k
  | 0 => by simp [lowBits]
  | k + 1 => by
    have ih := lowBits_range n k
    unfold lowBits
    split <;> omega
theorem lowBits_all : ∀ n : Fin 128, lowBits n.val 40 = sz n.val := by decide +kernel

theorem div_range7 (s : Int) (k : Nat) (h0 : 0 ≤ s) (h1 : s < 128) : 0 ≤ s / 2 ^ k ∧ s / 2 ^ k < 128 :=
  ⟨Int.ediv_nonneg h0 (Int.pow_nonneg (by omega)), Int.lt_of_le_of_lt (Int.ediv_le_self _ h0) h1⟩

set_option maxHeartbeats 400000 in
theorem bitsOf_any (n : Int) (w : World) (h0 : 0 ≤ n) (h1 : n < 128) :
    Calls Tryd.prog 13 #[.int .i64 n] w fun e w' => e = .returned (.int .i64 (sz n)) ∧ w = w' := by
  have HE : Hid (lowBits n 40 = sz n) := hide (by
    have := lowBits_all ⟨n.toNat, by omega⟩
    simpa only [Int.toNat_of_nonneg h0] using this)
  generalize sz n = z at *
  go_enter Tryd.func13, Tryd.ntmps13
  go_wp2_with fail
  go_loopw [3, 4] (fun sv i wr => ∃ (k : Nat) (s : Int), k ≤ 40 ∧ i = .int .i64 k ∧ sv = .int .i64 s ∧ 0 ≤ s ∧ s ≤ 40 ∧ Hid (lowBits n k = s) ∧ w = wr) (fun _ i _ => 40 - (intOf i).toNat)
  case atStart => exact ⟨0, 0, by omega, rfl, rfl, by omega, by omega, hide rfl, rfl⟩
  case round =>
    obtain ⟨k, s, hk, rfl, rfl, hs0, hs1, HS, rfl⟩ := hrel
    by_cases hlt : (k : Int) < 40
    · have hd := div_range7 n k h0 h1
      have hz : (0 : Int) ≤ k := by omega
      have hr := lowBits_range n (k + 1)
      cases hh : hasB n k with
      | false =>
        have hf : (n / 2 ^ k % 2 == 1) = false := hh
        have H3 : Hid (lowBits n (k + 1) = s) := hide (by rw [lowBits, hh, HS.out]; simp)
        clear hh hr
        go_wp2_with fail
        go_roundw
        case rel => exact ⟨k + 1, s, by omega, by go_num, rfl, hs0, hs1, H3, trivial⟩
        case measure => simp [intOf]; omega
      | true =>
        have hf : (n / 2 ^ k % 2 == 1) = true := hh
        have H3 : Hid (lowBits n (k + 1) = s + 1) := hide (by rw [lowBits, hh, HS.out]; simp)
        rw [H3.out] at hr
        clear hh
        go_wp2_with fail
        go_roundw
        case rel => exact ⟨k + 1, s + 1, by omega, by go_num, rfl, by omega, by omega, H3, trivial⟩
        case measure => simp [intOf]; omega
    · obtain rfl : k = 40 := by omega
      have H3 : Hid (z = s) := hide (by rw [← HE.out, HS.out])
      go_wp2_with fail
      go_ret
      exact ⟨by rw [H3.out]; rfl, rfl⟩
end Go.Proofs.YthbainbgimbjeaaDoor
