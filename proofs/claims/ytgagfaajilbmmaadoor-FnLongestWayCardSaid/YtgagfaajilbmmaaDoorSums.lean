/- Contracts of the sums of lists of numbers, of the program and of the reference model: both wrap as Go's int does.
   Conditions: lists have at most 1048576 elements. -/
import Derived.Test.YtgagfaajilbmmaaDoorStock
import Derived.IntWalk
namespace Go.Proofs.YtgagfaajilbmmaaDoor
open Go.RowKit

def sumGo : Int → List Int → Int
  | s, [] => s
  | s, x :: r => sumGo (wrap64 (s + x)) r
def sumW (xs : List Int) : Int := sumGo 0 xs

/-- The plain sum. -/
def sumL : List Int → Int
  | [] => 0
  | x :: r => x + sumL r

theorem sumGo_plain : ∀ (xs : List Int) (s lo hi : Int), (∀ x ∈ xs, lo ≤ x ∧ x ≤ hi) → lo ≤ 0 → 0 ≤ hi → -1000000000000 ≤ s + lo * xs.length → s + hi * xs.length ≤ 1000000000000 → sumGo s xs = s + sumL xs
  | [], s, lo, hi, _, _, _, _, _ => by simp [sumGo, sumL]
  | x :: r, s, lo, hi, h, hlo, hhi, h0, h1 => by
    have hx := h x (by simp)
    simp only [List.length_cons, Int.natCast_add, Int.natCast_one, Int.mul_add, Int.mul_one] at h0 h1
    have hm0 : lo * (r.length : Int) ≤ 0 := Int.mul_nonpos_of_nonpos_of_nonneg hlo (by omega)
    have hm1 : 0 ≤ hi * (r.length : Int) := Int.mul_nonneg hhi (by omega)
    unfold sumGo sumL
    rw [IntWalk.wrap64_in _ (by omega), sumGo_plain r (s + x) lo hi (fun y hy => h y (by simp [hy])) hlo hhi (by omega) (by omega)]
    omega

theorem sumW_plain {xs : List Int} {hi : Int} (h : ∀ x ∈ xs, 0 ≤ x ∧ x ≤ hi) (hh : 0 ≤ hi) (hb : hi * xs.length ≤ 1000000000000) : sumW xs = sumL xs := by
  unfold sumW
  rw [sumGo_plain xs 0 0 hi h (by omega) hh (by omega) (by omega)]
  omega

theorem sumL_range {xs : List Int} {hi : Int} (h : ∀ x ∈ xs, 0 ≤ x ∧ x ≤ hi) : 0 ≤ sumL xs ∧ sumL xs ≤ hi * xs.length := by
  induction xs with
  | nil => simp [sumL]
  | cons x r ih =>
    have := ih (fun y hy => h y (by simp [hy]))
    have hx := h x (by simp)
    simp only [sumL, List.length_cons, Int.natCast_add, Int.natCast_one, Int.mul_add, Int.mul_one]
    omega

set_option maxHeartbeats 400000 in
theorem sumOf_any (A : Option Addr) (c : Nat) (xs : List Int) (w : World) (hA : IntsAt w A xs) (hl : xs.length ≤ 1048576) :
    Calls Tryd.prog 112 #[.slice A xs.length c] w fun e w' => e = .returned (.int .i64 (sumW xs)) ∧ w = w' := by
  go_enter Tryd.func112, Tryd.ntmps112
  go_wp2_with fail
  go_loopw [3, 8] (fun sv i wr => ∃ (k : Nat) (s : Int), k ≤ xs.length ∧ i = .int .i64 k ∧ sv = .int .i64 s ∧ Hid (sumW xs = sumGo s (xs.drop k)) ∧ w = wr) (fun _ i _ => xs.length - (intOf i).toNat)
  case atStart => exact ⟨0, 0, Nat.zero_le _, rfl, rfl, hide rfl, rfl⟩
  case round =>
    obtain ⟨k, s, hk, rfl, rfl, HG, rfl⟩ := hrel
    by_cases hlt : k < xs.length
    · obtain ⟨b, off, rfl, hbl, hc1⟩ := hA k xs[k] (List.getElem?_eq_getElem hlt)
      have HD : Hid (xs.drop k = xs[k] :: xs.drop (k + 1)) := hide (List.drop_eq_getElem_cons hlt)
      generalize xs[k] = p at *
      have H3 : Hid (sumW xs = sumGo (wrap64 (s + p)) (xs.drop (k + 1))) := hide (by rw [HG.out, HD.out, sumGo])
      have hz : (0 : Int) ≤ k := by omega
      have hz2 : (k : Int) < xs.length := by omega
      go_wp2_with fail
      go_roundw
      case rel => exact ⟨k + 1, _, hlt, by go_num, rfl, H3, trivial⟩
      case measure => simp [intOf]; omega
    · have H3 : Hid (sumW xs = s) := hide (by rw [HG.out, List.drop_of_length_le (by omega), sumGo])
      go_wp2_with fail
      go_ret
      exact ⟨by rw [H3.out]; rfl, rfl⟩

set_option maxHeartbeats 400000 in
theorem l1Sum_any (A : Option Addr) (c : Nat) (xs : List Int) (w : World) (hA : IntsAt w A xs) (hl : xs.length ≤ 1048576) :
    Calls Tryd.prog 98 #[.slice A xs.length c] w fun e w' => e = .returned (.int .i64 (sumW xs)) ∧ w = w' := by
  go_enter Tryd.func98, Tryd.ntmps98
  go_wp2_with fail
  go_loopw [3, 4] (fun sv i wr => ∃ (k : Nat) (s : Int), k ≤ xs.length ∧ i = .int .i64 k ∧ sv = .int .i64 s ∧ Hid (sumW xs = sumGo s (xs.drop k)) ∧ w = wr) (fun _ i _ => xs.length - (intOf i).toNat)
  case atStart => exact ⟨0, 0, Nat.zero_le _, rfl, rfl, hide rfl, rfl⟩
  case round =>
    obtain ⟨k, s, hk, rfl, rfl, HG, rfl⟩ := hrel
    by_cases hlt : k < xs.length
    · obtain ⟨b, off, rfl, hbl, hc1⟩ := hA k xs[k] (List.getElem?_eq_getElem hlt)
      have HD : Hid (xs.drop k = xs[k] :: xs.drop (k + 1)) := hide (List.drop_eq_getElem_cons hlt)
      generalize xs[k] = p at *
      have H3 : Hid (sumW xs = sumGo (wrap64 (s + p)) (xs.drop (k + 1))) := hide (by rw [HG.out, HD.out, sumGo])
      have hz : (0 : Int) ≤ k := by omega
      have hz2 : (k : Int) < xs.length := by omega
      go_wp2_with fail
      go_roundw
      case rel => exact ⟨k + 1, _, hlt, by go_num, rfl, H3, trivial⟩
      case measure => simp [intOf]; omega
    · have H3 : Hid (sumW xs = s) := hide (by rw [HG.out, List.drop_of_length_le (by omega), sumGo])
      go_wp2_with fail
      go_ret
      exact ⟨by rw [H3.out]; rfl, rfl⟩
end Go.Proofs.YtgagfaajilbmmaaDoor
