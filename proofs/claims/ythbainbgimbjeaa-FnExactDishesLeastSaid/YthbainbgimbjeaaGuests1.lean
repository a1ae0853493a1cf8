/- Guests1: all guests, how many are in a set; valid menus; contracts of the program and of the reference model.
   Conditions: lists have at most 1048576 elements. -/
import Derived.Test.YthbainbgimbjeaaGuestMath2
import Derived.Test.YthbainbgimbjeaaStock
import Derived.Laws.BitsLemmas
import Derived.Deep.QuietTactic
import Derived.BigQuiet
import Derived.Laws.Bits64
namespace Go.Proofs.Ythbainbgimbjeaa
open Go.RowKit

theorem l1In_w (n lo hi : Int) (b : Bool) (hb : Hid (inR n lo hi = b)) (w : World) :
    Calls Try.prog 14 #[.int .i64 n, .int .i64 lo, .int .i64 hi] w fun e w' => e = .returned (.bool b) ∧ w = w' := (l1In_is n lo hi b hb w).mono fun _ _ h => ⟨h.1, h.2.symm⟩
theorem l1Join_w (a b : Int) (w : World) (h0 : 0 ≤ a) (h1 : a < 64) (h2 : 0 ≤ b) (h3 : b < 64) :
    Calls Try.prog 26 #[.int .i64 a, .int .i64 b] w fun e w' => e = .returned (.int .i64 (orI a b)) ∧ w = w' := (l1Join_any a b w h0 h1 h2 h3).mono fun _ _ h => ⟨h.1, h.2.symm⟩

theorem allGuests_any (g : Int) (w : World) (h0 : 0 ≤ g) (h1 : g ≤ 6) :
    Calls Try.prog 13 #[.int .i64 g] w fun e w' => e = .returned (.int .i64 (full g)) ∧ w = w' := by
  have hp := pow_range6 g.toNat (by omega)
  have HF : Hid (full g = 2 ^ g.toNat - 1) := hide rfl
  go_enter Try.func13, Try.ntmps13
  go_wp2_with fail
  go_ret
  exact ⟨by rw [HF.out]; rfl, rfl⟩

set_option maxHeartbeats 400000 in
theorem implMenuValid_any (g : Int) (A : Option Addr) (c : Nat) (m : List Int) (w : World) (hA : IntsAt w A m) (hl : m.length ≤ 1048576) :
    Calls Try.prog 11 #[.int .i64 g, .slice A m.length c] w fun e w' => e = .returned (.bool (menuOk g m)) ∧ Below w.heap.size w w' := by
  cases hg : inR g 0 6 with
  | false =>
    have HG := hide hg
    have HR : Hid (menuOk g m = false) := hide (by unfold menuOk; rw [hg]; rfl)
    clear hg
    go_enter Try.func11, Try.ntmps11
    go_wp2_with fail
    refine (inRange_is _ _ _ _ HG _).mono ?_
    rintro e w' ⟨rfl, rfl⟩
    go_wp2_with fail
    go_ret
    exact ⟨by rw [HR.out]; rfl, by go_grown⟩
  | true =>
    have HG := hide hg
    have hg01 := inR_iff.1 hg
    have h0 := hg01.1
    have h1 := hg01.2
    clear hg01
    by_cases h6 : m.length ≤ 6
    · have HR : Hid (menuOk g m = rangeOk (full g) m) := hide (by unfold menuOk; rw [hg, decide_eq_true h6]; rfl)
      have hd : decide ((m.length : Int) ≤ 6) = true := decide_eq_true (by omega)
      clear hg
      go_enter Try.func11, Try.ntmps11
      go_wp2_with fail
      refine (inRange_is _ _ _ _ HG _).mono ?_
      rintro e w' ⟨rfl, rfl⟩
      go_wp2_with fail
      refine (allGuests_any _ _ h0 h1).mono ?_
      rintro e w' ⟨rfl, rfl⟩
      go_wp2_with fail
      refine (allInRange_self _ _ _ _ _ hA hl).mono ?_
      rintro e w1 ⟨rfl, hB⟩
      go_wp2_with fail
      go_ret
      exact ⟨by rw [HR.out]; rfl, hB⟩
    · have HR : Hid (menuOk g m = false) := hide (by unfold menuOk; rw [hg, decide_eq_false h6]; rfl)
      have hd : decide ((m.length : Int) ≤ 6) = false := decide_eq_false (by omega)
      clear hg
      go_enter Try.func11, Try.ntmps11
      go_wp2_with fail
      refine (inRange_is _ _ _ _ HG _).mono ?_
      rintro e w' ⟨rfl, rfl⟩
      go_wp2_with fail
      go_ret
      exact ⟨by rw [HR.out]; rfl, by go_grown⟩

set_option maxHeartbeats 800000 in
theorem specMenuValid_q (g : Int) (A : Option Addr) (c : Nat) (m : List Int) (w : World) (hA : IntsAt w A m) (hl : m.length ≤ 1048576) :
    Calls Try.prog 8 #[.int .i64 g, .slice A m.length c] w fun e w' => e = .returned (.bool (menuOk g m)) ∧ ∃ n, w' = w.drewN n := by
  cases hg : inR g 0 6 with
  | false =>
    have HG := hide hg
    have HR : Hid (menuOk g m = false) := hide (by unfold menuOk; rw [hg]; rfl)
    clear hg
    go_enter Try.func8, Try.ntmps8
    go_wp2_with fail
    refine (l1In_w _ _ _ _ HG _).mono ?_
    rintro e w' ⟨rfl, rfl⟩
    go_wp2_with fail
    go_ret
    exact ⟨by rw [HR.out]; rfl, 0, rfl⟩
  | true =>
    have HG := hide hg
    have hg01 := inR_iff.1 hg
    have h0 := hg01.1
    have h1 := hg01.2
    clear hg01
    have hp := pow_range6 g.toNat (by omega)
    have hw1 : IntKind.i64.wrap (2 ^ g.toNat) = 2 ^ g.toNat := IntWalk.i64_in _ (by omega)
    have hw2 : IntKind.i64.wrap (2 ^ g.toNat - 1) = full g := IntWalk.i64_in _ (by omega)
    have HR : Hid (menuOk g m = (decide (m.length ≤ 6) && rangeOk (full g) m)) := hide (by unfold menuOk; rw [hg]; rfl)
    clear hg
    go_enter Try.func8, Try.ntmps8
    go_wp2_with fail
    refine (l1In_w _ _ _ _ HG _).mono ?_
    rintro e w' ⟨rfl, rfl⟩
    go_wp2_with fail
    go_loopw [5] (fun i wr => ∃ (k n : Nat), k ≤ m.length ∧ i = .int .i64 k ∧ Hid (rangeOk (full g) m = rangeOk (full g) (m.drop k)) ∧ Hid (wr = w.drewN n)) (fun i _ => m.length - (intOf i).toNat)
    case atStart => exact ⟨0, 0, Nat.zero_le _, rfl, hide rfl, hide rfl⟩
    case round =>
      obtain ⟨k, n, hk, rfl, HS, HW⟩ := hrel
      have hb : Below w.heap.size w wr := by rw [HW.out]; exact below_drewN (Below.refl _ _) n
      have hsz := hb.size
      by_cases hlt : k < m.length
      · obtain ⟨b, off, rfl, hbl, hc1⟩ := (hA.below hb) k m[k] (List.getElem?_eq_getElem hlt)
        have HD : Hid (m.drop k = m[k] :: m.drop (k + 1)) := hide (List.drop_eq_getElem_cons hlt)
        generalize m[k] = p at *
        have hz : (0 : Int) ≤ k := by omega
        have hz2 : (k : Int) < m.length := by omega
        cases hp2 : inR p 0 (full g) with
        | false =>
          have HQ := hide hp2
          have H3 : Hid (menuOk g m = false) := hide (by rw [HR.out, HS.out, HD.out]; unfold rangeOk; rw [List.all_cons, hp2]; simp)
          clear hp2
          go_wp2_with fail
          go_quiet ((go_at_call 14; exact Calls.quiet_of_same (l1In_is _ _ _ _ HQ _)))
          go_wp2_with fail
          go_ret
          exact ⟨by rw [H3.out]; rfl, _, by rw [HW.out, World.drewN_drewN]⟩
        | true =>
          have HQ := hide hp2
          have H3 : Hid (rangeOk (full g) m = rangeOk (full g) (m.drop (k + 1))) := hide (by rw [HS.out, HD.out]; unfold rangeOk; rw [List.all_cons, hp2]; rfl)
          clear hp2
          go_wp2_with fail
          go_quiet ((go_at_call 14; exact Calls.quiet_of_same (l1In_is _ _ _ _ HQ _)))
          go_wp2_with fail
          go_roundw
          case rel => exact ⟨k + 1, _, hlt, by go_num, H3, hide (by rw [HW.out, World.drewN_drewN])⟩
          case measure => simp [intOf]; omega
      · have H3 : Hid (menuOk g m = decide (m.length ≤ 6)) := hide (by rw [HR.out, HS.out, List.drop_of_length_le (by omega)]; unfold rangeOk; simp)
        by_cases h6 : m.length ≤ 6
        · have hd : decide ((m.length : Int) ≤ 6) = true := decide_eq_true (by omega)
          go_wp2_with fail
          go_ret
          exact ⟨by rw [H3.out, decide_eq_true h6]; rfl, n, HW.out⟩
        · have hd : decide ((m.length : Int) ≤ 6) = false := decide_eq_false (by omega)
          go_wp2_with fail
          go_ret
          exact ⟨by rw [H3.out, decide_eq_false h6]; rfl, n, HW.out⟩

theorem below_of_drew {w w' : World} (h : ∃ n, w' = w.drewN n) : Below w.heap.size w w' := by
  obtain ⟨n, rfl⟩ := h
  exact below_drewN (Below.refl _ _) n
theorem specMenuValid_any (g : Int) (A : Option Addr) (c : Nat) (m : List Int) (w : World) (hA : IntsAt w A m) (hl : m.length ≤ 1048576) :
    Calls Try.prog 8 #[.int .i64 g, .slice A m.length c] w fun e w' => e = .returned (.bool (menuOk g m)) ∧ Below w.heap.size w w' :=
  (specMenuValid_q g A c m w hA hl).mono fun _ _ h => ⟨h.1, below_of_drew h.2⟩
end Go.Proofs.Ythbainbgimbjeaa
