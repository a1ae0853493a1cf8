/- Contracts of the laws' helpers over lists of numbers.
   Conditions: the lists have at most 1048576 elements. -/
import Derived.Test.YtgagfaajilbmmaaDoorInts
namespace Go.Proofs.YtgagfaajilbmmaaDoor
open Go.RowKit

set_option maxHeartbeats 400000 in
theorem sameInts_same (A A' : Option Addr) (c c' : Nat) (xs : List Int) (w : World) (h1 : IntsAt w A xs) (h2 : IntsAt w A' xs) (hl : xs.length ≤ 1048576) :
    Calls Tryd.prog 27 #[.slice A xs.length c, .slice A' xs.length c'] w fun e w' => e = .returned (.bool true) ∧ Below w.heap.size w w' := by
  have he : ((xs.length : Int) != xs.length) = false := by simp
  go_enter Tryd.func27, Tryd.ntmps27
  go_wp2_with fail
  go_loopw [5] (fun i wr => ∃ k : Nat, k ≤ xs.length ∧ i = .int .i64 k ∧ Below w.heap.size w wr) (fun i _ => xs.length - (intOf i).toNat)
  case atStart => exact ⟨0, Nat.zero_le _, rfl, Below.refl _ _⟩
  case round =>
    obtain ⟨k, hk, rfl, hb⟩ := hrel
    have hsz := hb.size
    by_cases hlt : k < xs.length
    · obtain ⟨b, off, rfl, hbl, hc1⟩ := (h1.below hb) k xs[k] (List.getElem?_eq_getElem hlt)
      obtain ⟨b', off', rfl, hbl', hc1'⟩ := (h2.below hb) k xs[k] (List.getElem?_eq_getElem hlt)
      generalize xs[k] = p at *
      have hpp : (p != p) = false := by simp
      have hz : (0 : Int) ≤ k := by omega
      have hz2 : (k : Int) < xs.length := by omega
      go_wp2_with fail
      go_quiet (fail)
      go_wp2_with fail
      go_roundw
      case rel => exact ⟨k + 1, hlt, by go_num, below_drewN hb _⟩
      case measure => simp [intOf]; omega
    · go_wp2_with fail
      go_ret
      exact ⟨rfl, by go_grown⟩

set_option maxHeartbeats 400000 in
theorem hasInt_any (A : Option Addr) (c : Nat) (xs : List Int) (n : Int) (w : World) (h1 : IntsAt w A xs) (hl : xs.length ≤ 1048576) :
    Calls Tryd.prog 34 #[.slice A xs.length c, .int .i64 n] w fun e w' => e = .returned (.bool (xs.any (· == n))) ∧ w' = w := by
  go_enter Tryd.func34, Tryd.ntmps34
  go_wp2_with fail
  go_loopw [5] (fun i wr => ∃ k : Nat, k ≤ xs.length ∧ i = .int .i64 k ∧ Hid (xs.any (· == n) = (xs.drop k).any (· == n)) ∧ wr = w) (fun i _ => xs.length - (intOf i).toNat)
  case atStart => exact ⟨0, Nat.zero_le _, rfl, hide rfl, rfl⟩
  case round =>
    obtain ⟨k, hk, rfl, HA, rfl⟩ := hrel
    by_cases hlt : k < xs.length
    · obtain ⟨b, off, rfl, hbl, hc1⟩ := h1 k xs[k] (List.getElem?_eq_getElem hlt)
      have HD : Hid (xs.drop k = xs[k] :: xs.drop (k + 1)) := hide (List.drop_eq_getElem_cons hlt)
      generalize xs[k] = p at *
      have hz : (0 : Int) ≤ k := by omega
      have hz2 : (k : Int) < xs.length := by omega
      by_cases hpn : p = n
      · subst hpn
        have HR : Hid (xs.any (· == p) = true) := hide (by rw [HA.out, HD.out, List.any_cons]; simp)
        go_wp2_with fail
        go_ret
        exact ⟨by rw [HR.out]; rfl, rfl⟩
      · have hpb : (p == n) = false := by simpa using hpn
        have HR : Hid (xs.any (· == n) = (xs.drop (k + 1)).any (· == n)) := hide (by rw [HA.out, HD.out, List.any_cons, hpb, Bool.false_or])
        go_wp2_with fail
        go_roundw
        case rel => exact ⟨k + 1, hlt, by go_num, HR, trivial⟩
        case measure => simp [intOf]; omega
    · have HR : Hid (xs.any (· == n) = false) := hide (by rw [HA.out, List.drop_of_length_le (by omega)]; rfl)
      go_wp2_with fail
      go_ret
      exact ⟨by rw [HR.out]; rfl, rfl⟩

end Go.Proofs.YtgagfaajilbmmaaDoor
