/- Guests8: contracts of ApartMost, of the program and of the reference model.
   Conditions: lists have at most 1048576 elements. -/
import Derived.Test.YtbkelmolhgofpacGuestMath4
import Derived.Test.YtbkelmolhgofpacGuests5
import Derived.Test.YtbkelmolhgofpacPush
namespace Go.Proofs.Ytbkelmolhgofpac
open Go.RowKit Go.ChangeShapes Go.WideShapes Go.ChangeAt Go.Deep

theorem most_step {ms : List Int} {k : Nat} {s : Int} (h : mostGo ms k = s) (ha : apartS k ms = true) : mostGo ms (k + 1) = if s < sz k then sz k else s := by
  unfold mostGo
  rw [if_pos ha, h]
  split <;> omega
theorem most_skip {ms : List Int} {k : Nat} {s : Int} (h : mostGo ms k = s) (ha : apartS k ms = false) : mostGo ms (k + 1) = s := by
  unfold mostGo
  rw [if_neg (by rw [ha]; decide), h]

set_option maxRecDepth 100000 in
set_option maxHeartbeats 2000000 in
theorem mostApart_any (A : Option Addr) (c : Nat) (ms : List Int) (w : World) (hA : IntsAt w A ms) (hl : ms.length ≤ 6) (HX : Hid (∀ x ∈ ms, 0 ≤ x ∧ x < 64)) :
    Calls Try.prog 27 #[.slice A ms.length c] w fun e w' => e = .returned (.int .i64 (mostGo ms (2 ^ ms.length))) ∧ w = w' := by
  have hp := pow_range6 ms.length hl
  have HN : Hid (((2 ^ ms.length : Nat) : Int) = (2 : Int) ^ ms.length) := hide (by simp)
  go_enter Try.func27, Try.ntmps27
  go_wp2_with fail
  go_loopw [3, 8] (fun sv i wr => ∃ (k : Nat) (s : Int), (k : Int) ≤ 2 ^ ms.length ∧ i = .int .i64 k ∧ sv = .int .i64 s ∧ 0 ≤ s ∧ s ≤ 64 ∧ Hid (mostGo ms k = s) ∧ w = wr) (fun _ i _ => 64 - (intOf i).toNat)
  case atStart => exact ⟨0, 0, by omega, rfl, rfl, by omega, by omega, hide rfl, rfl⟩
  case round =>
    obtain ⟨k, s, hk, rfl, rfl, hs0, hs1, HG, rfl⟩ := hrel
    by_cases hlt : (k : Int) < 2 ^ ms.length
    · have hk0 : (0 : Int) ≤ k := by omega
      have hk1 : (k : Int) < 64 := by omega
      cases ha : apartS k ms with
      | false =>
        have HA := hide ha
        have H3 := hide (most_skip HG.out ha)
        clear ha
        go_wp2_with fail
        refine (isApart_any _ _ _ _ _ hA hl HX hk0 hk1).mono ?_
        rintro e w1 ⟨rfl, rfl⟩
        rw [HA.out]
        go_wp2_with fail
        go_roundw
        case rel => exact ⟨k + 1, s, by omega, by go_num, rfl, hs0, hs1, H3, trivial⟩
        case measure => simp [intOf]; omega
      | true =>
        have HA := hide ha
        have H3 := hide (most_step HG.out ha)
        have hz := sz_bound k
        have HC := hide (fun W => sizeOf_any (k : Int) W hk0 (by omega))
        clear ha
        generalize sz (k : Int) = z at *
        by_cases hsz : s < z
        · have H4 : Hid (mostGo ms (k + 1) = z) := hide (by rw [H3.out, if_pos hsz])
          go_wp2_with fail
          refine (isApart_any _ _ _ _ _ hA hl HX hk0 hk1).mono ?_
          rintro e w1 ⟨rfl, rfl⟩
          rw [HA.out]
          go_wp2_with fail
          refine (HC.out _).mono ?_
          rintro e w1 ⟨rfl, rfl⟩
          go_wp2_with fail
          go_roundw
          case rel => exact ⟨k + 1, z, by omega, by go_num, rfl, hz.1, hz.2, H4, trivial⟩
          case measure => simp [intOf]; omega
        · have H4 : Hid (mostGo ms (k + 1) = s) := hide (by rw [H3.out, if_neg hsz])
          go_wp2_with fail
          refine (isApart_any _ _ _ _ _ hA hl HX hk0 hk1).mono ?_
          rintro e w1 ⟨rfl, rfl⟩
          rw [HA.out]
          go_wp2_with fail
          refine (HC.out _).mono ?_
          rintro e w1 ⟨rfl, rfl⟩
          go_wp2_with fail
          go_roundw
          case rel => exact ⟨k + 1, s, by omega, by go_num, rfl, hs0, hs1, H4, trivial⟩
          case measure => simp [intOf]; omega
    · have H3 : Hid (mostGo ms (2 ^ ms.length) = s) := hide (by rw [← HG.out, show k = 2 ^ ms.length from by have := HN.out; omega])
      go_wp2_with fail
      go_ret
      exact ⟨by rw [H3.out]; rfl, rfl⟩

theorem am_no {g : Int} {m : List Int} (h : menuOk g m = false) : apartMostL g m = -1 := by unfold apartMostL; rw [h]; rfl

end Go.Proofs.Ytbkelmolhgofpac
