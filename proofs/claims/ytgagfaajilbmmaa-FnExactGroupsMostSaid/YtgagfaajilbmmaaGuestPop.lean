/- GuestPop: how many bits a set has: bits.OnesCount and the model's count.
   Conditions: the set is from 0 to the greatest int. -/
import Derived.Test.YtgagfaajilbmmaaGuestMath
import Derived.Laws.BitsLemmas
import Derived.Laws.Bits64
namespace Go.Proofs.Ytgagfaajilbmmaa
open Go.RowKit

theorem sz_step {x : Int} (h0 : 0 ≤ x) (h1 : x ≤ 9223372036854775807) : sz x = x % 2 + sz (x / 2) := by
  obtain ⟨n, rfl⟩ := Int.eq_ofNat_of_zero_le h0
  have := popN_step n (by omega)
  unfold sz
  rw [show ((n : Int) / 2).toNat = n / 2 from by omega, Int.toNat_natCast, this]
  omega

theorem wraps_u64 (n : Int) (h0 : 0 ≤ n) (h1 : n < 2 ^ 64) : IntKind.u64.wrap n = n := by rw [IntKind.wrap_u64]; omega
theorem and64 (a b : Nat) (ha : a < 18446744073709551616) (hb : b < 18446744073709551616) : bits .and .u64 (a : Int) (b : Int) = ((a &&& b : Nat) : Int) :=
  (bits_nat .u64 64 (by decide) wraps_u64 a b ha hb).1
theorem pc1 (n : Nat) (hn : n < 18446744073709551616) : IntKind.u64.wrap (bits .and .u64 ((n : Int) / 2) 6148914691236517205 + bits .and .u64 (n : Int) 6148914691236517205) = ((sw1 n : Nat) : Int) := by
  have a := and64 (n / 2) 6148914691236517205 (by omega) (by omega)
  have b := and64 n 6148914691236517205 hn (by omega)
  have l := sw1_lt n
  rw [show (n : Int) / 2 = ((n / 2 : Nat) : Int) from by omega, show (6148914691236517205 : Int) = ((6148914691236517205 : Nat) : Int) from rfl, a, b]
  unfold sw1 at l ⊢
  rw [wraps_u64 _ (by omega) (by omega)]
  omega
theorem pc2 (n : Nat) : IntKind.u64.wrap (bits .and .u64 (((sw1 n : Nat) : Int) / 4) 3689348814741910323 + bits .and .u64 ((sw1 n : Nat) : Int) 3689348814741910323) = ((sw2 (sw1 n) : Nat) : Int) := by
  have h1 := sw1_lt n
  have l := sw2_lt n
  generalize sw1 n = m at *
  have a := and64 (m / 4) 3689348814741910323 (by omega) (by omega)
  have b := and64 m 3689348814741910323 h1 (by omega)
  rw [show (m : Int) / 4 = ((m / 4 : Nat) : Int) from by omega, show (3689348814741910323 : Int) = ((3689348814741910323 : Nat) : Int) from rfl, a, b]
  unfold sw2 at l ⊢
  rw [wraps_u64 _ (by omega) (by omega)]
  omega
theorem pc3 (n : Nat) : bits .and .u64 (IntKind.u64.wrap (((sw2 (sw1 n) : Nat) : Int) / 16 + ((sw2 (sw1 n) : Nat) : Int))) 1085102592571150095 = ((sw3 (sw2 (sw1 n)) : Nat) : Int) := by
  have l := sw2_lt n
  generalize sw2 (sw1 n) = m at *
  have a := and64 (m / 16 + m) 1085102592571150095 (by omega) (by omega)
  rw [show (m : Int) / 16 + (m : Int) = ((m / 16 + m : Nat) : Int) from by omega, wraps_u64 _ (by omega) (by omega), show (1085102592571150095 : Int) = ((1085102592571150095 : Nat) : Int) from rfl, a]
  rfl
theorem pc4 (m : Nat) (h : m ≤ 1085102592571150095) : IntKind.u64.wrap ((m : Int) + (m : Int) / 256) = ((sw4 m : Nat) : Int) ∧ sw4 m ≤ 1100000000000000000 := by
  unfold sw4
  rw [wraps_u64 _ (by omega) (by omega)]
  omega
theorem pc5 (m : Nat) (h : m ≤ 1100000000000000000) : IntKind.u64.wrap ((m : Int) + (m : Int) / 65536) = ((sw5 m : Nat) : Int) ∧ sw5 m ≤ 1200000000000000000 := by
  unfold sw5
  rw [wraps_u64 _ (by omega) (by omega)]
  omega
theorem pc6 (m : Nat) (h : m ≤ 1200000000000000000) : IntKind.u64.wrap ((m : Int) + (m : Int) / 4294967296) = ((sw6 m : Nat) : Int) ∧ sw6 m ≤ 1300000000000000000 := by
  unfold sw6
  rw [wraps_u64 _ (by omega) (by omega)]
  omega
theorem pc7 (m : Nat) (h : m ≤ 1300000000000000000) : bits .and .i64 (m : Int) 127 = ((m % 128 : Nat) : Int) := by
  have := bits_mask .i64 63 (by decide) (fun n h0 h1 => by rw [IntKind.wrap_i64]; omega) 7 (by decide) (m : Int) (by omega) (by omega)
  rw [show (127 : Int) = 2 ^ 7 - 1 from by decide, this]
  omega

end Go.Proofs.Ytgagfaajilbmmaa
