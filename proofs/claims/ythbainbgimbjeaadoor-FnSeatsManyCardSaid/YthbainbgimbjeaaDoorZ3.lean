/- Guests1: all guests, how many are in a set; valid menus; contracts of the program and of the reference model.
   Conditions: lists have at most 1048576 elements.
   GuestPop: how many bits a set has: bits.OnesCount and the model's count.
   Conditions: the set is from 0 to the greatest int.
   Guests2: who is fed, whether all are, how many dishes; contracts of the program and of the reference model.
   Conditions: lists have at most 1048576 elements.
   Guests3: guests who are apart; contracts of the program and of the reference model.
   Conditions: lists have at most 1048576 elements.
   Guests4: those who share a dish with a guest; ApartValid of the program.
   Conditions: lists have at most 1048576 elements.
   Guests5: contracts of ApartValid, of the program and of the reference model.
   Conditions: lists have at most 1048576 elements.
   Guests6: contracts of QuarrelsValid, of the program and of the reference model.
   Conditions: lists have at most 1048576 elements. -/
import Derived.Test.YthbainbgimbjeaaDoorZ2
import Derived.Test.YthbainbgimbjeaaDoorZ1
import Derived.Laws.BitsLemmas
import Derived.Deep.QuietTactic
import Derived.BigQuiet
import Derived.Laws.Bits64
import Derived.Test.YthbainbgimbjeaaDoorSlKit
import Derived.Test.YthbainbgimbjeaaDoorZeros
namespace Go.Proofs.YthbainbgimbjeaaDoor
open Go.RowKit

theorem l1In_w (n lo hi : Int) (b : Bool) (hb : Hid (inR n lo hi = b)) (w : World) :
    Calls Tryd.prog 40 #[.int .i64 n, .int .i64 lo, .int .i64 hi] w fun e w' => e = .returned (.bool b) ∧ w = w' := (l1In_is n lo hi b hb w).mono fun _ _ h => ⟨h.1, h.2.symm⟩
theorem inSet_w (s k : Int) (w : World) (h0 : 0 ≤ s) (h1 : s < 64) (h2 : 0 ≤ k) (h3 : k < 6) (b : Bool) (hb : Hid (hasB s k.toNat = b)) :
    Calls Tryd.prog 45 #[.int .i64 s, .int .i64 k] w fun e w' => e = .returned (.bool b) ∧ w = w' := (inSet_any s k w h0 h1 h2 h3).mono fun _ _ h => ⟨by rw [← hb.out]; exact h.1, h.2.symm⟩
theorem l1Join_w (a b : Int) (w : World) (h0 : 0 ≤ a) (h1 : a < 64) (h2 : 0 ≤ b) (h3 : b < 64) :
    Calls Tryd.prog 43 #[.int .i64 a, .int .i64 b] w fun e w' => e = .returned (.int .i64 (orI a b)) ∧ w = w' := (l1Join_any a b w h0 h1 h2 h3).mono fun _ _ h => ⟨h.1, h.2.symm⟩

theorem allGuests_any (g : Int) (w : World) (h0 : 0 ≤ g) (h1 : g ≤ 6) :
    Calls Tryd.prog 31 #[.int .i64 g] w fun e w' => e = .returned (.int .i64 (full g)) ∧ w = w' := by
  have hp := pow_range6 g.toNat (by omega)
  have HF : Hid (full g = 2 ^ g.toNat - 1) := hide rfl
  go_enter Tryd.func31, Tryd.ntmps31
  go_wp2_with fail
  go_ret
  exact ⟨by rw [HF.out]; rfl, rfl⟩

set_option maxHeartbeats 400000 in
theorem implMenuValid_any (g : Int) (A : Option Addr) (c : Nat) (m : List Int) (w : World) (hA : IntsAt w A m) (hl : m.length ≤ 1048576) :
    Calls Tryd.prog 34 #[.int .i64 g, .slice A m.length c] w fun e w' => e = .returned (.bool (menuOk g m)) ∧ Below w.heap.size w w' := by
  cases hg : inR g 0 6 with
  | false =>
    have HG := hide hg
    have HR : Hid (menuOk g m = false) := hide (by unfold menuOk; rw [hg]; rfl)
    clear hg
    go_enter Tryd.func34, Tryd.ntmps34
    go_wp2_with fail
    refine (inRange_is _ _ _ _ HG _).mono ?_
    rintro e w' ⟨rfl, rfl⟩
    go_wp2_with fail
    go_ret
    exact ⟨by rw [HR.out]; rfl, by go_grown⟩
  | true =>
    have HG := hide hg
    have hg01 := inR_iff.1 hg
    have h0 := hg01.1
    have h1 := hg01.2
    clear hg01
    by_cases h6 : m.length ≤ 6
    · have HR : Hid (menuOk g m = rangeOk (full g) m) := hide (by unfold menuOk; rw [hg, decide_eq_true h6]; rfl)
      have hd : decide ((m.length : Int) ≤ 6) = true := decide_eq_true (by omega)
      clear hg
      go_enter Tryd.func34, Tryd.ntmps34
      go_wp2_with fail
      refine (inRange_is _ _ _ _ HG _).mono ?_
      rintro e w' ⟨rfl, rfl⟩
      go_wp2_with fail
      refine (allGuests_any _ _ h0 h1).mono ?_
      rintro e w' ⟨rfl, rfl⟩
      go_wp2_with fail
      refine (allInRange_self _ _ _ _ _ hA hl).mono ?_
      rintro e w1 ⟨rfl, hB⟩
      go_wp2_with fail
      go_ret
      exact ⟨by rw [HR.out]; rfl, hB⟩
    · have HR : Hid (menuOk g m = false) := hide (by unfold menuOk; rw [hg, decide_eq_false h6]; rfl)
      have hd : decide ((m.length : Int) ≤ 6) = false := decide_eq_false (by omega)
      clear hg
      go_enter Tryd.func34, Tryd.ntmps34
      go_wp2_with fail
      refine (inRange_is _ _ _ _ HG _).mono ?_
      rintro e w' ⟨rfl, rfl⟩
      go_wp2_with fail
      go_ret
      exact ⟨by rw [HR.out]; rfl, by go_grown⟩

set_option maxHeartbeats 800000 in
theorem specMenuValid_q (g : Int) (A : Option Addr) (c : Nat) (m : List Int) (w : World) (hA : IntsAt w A m) (hl : m.length ≤ 1048576) :
    Calls Tryd.prog 17 #[.int .i64 g, .slice A m.length c] w fun e w' => e = .returned (.bool (menuOk g m)) ∧ ∃ n, w' = w.drewN n := by
  cases hg : inR g 0 6 with
  | false =>
    have HG := hide hg
    have HR : Hid (menuOk g m = false) := hide (by unfold menuOk; rw [hg]; rfl)
    clear hg
    go_enter Tryd.func17, Tryd.ntmps17
    go_wp2_with fail
    refine (l1In_w _ _ _ _ HG _).mono ?_
    rintro e w' ⟨rfl, rfl⟩
    go_wp2_with fail
    go_ret
    exact ⟨by rw [HR.out]; rfl, 0, rfl⟩
  | true =>
    have HG := hide hg
    have hg01 := inR_iff.1 hg
    have h0 := hg01.1
    have h1 := hg01.2
    clear hg01
    have hp := pow_range6 g.toNat (by omega)
    have hw1 : IntKind.i64.wrap (2 ^ g.toNat) = 2 ^ g.toNat := IntWalk.i64_in _ (by omega)
    have hw2 : IntKind.i64.wrap (2 ^ g.toNat - 1) = full g := IntWalk.i64_in _ (by omega)
    have HR : Hid (menuOk g m = (decide (m.length ≤ 6) && rangeOk (full g) m)) := hide (by unfold menuOk; rw [hg]; rfl)
    clear hg
    go_enter Tryd.func17, Tryd.ntmps17
    go_wp2_with fail
    refine (l1In_w _ _ _ _ HG _).mono ?_
    rintro e w' ⟨rfl, rfl⟩
    go_wp2_with fail
    go_loopw [5] (fun i wr => ∃ (k n : Nat), k ≤ m.length ∧ i = .int .i64 k ∧ Hid (rangeOk (full g) m = rangeOk (full g) (m.drop k)) ∧ Hid (wr = w.drewN n)) (fun i _ => m.length - (intOf i).toNat)
    case atStart => exact ⟨0, 0, Nat.zero_le _, rfl, hide rfl, hide rfl⟩
    case round =>
      obtain ⟨k, n, hk, rfl, HS, HW⟩ := hrel
      have hb : Below w.heap.size w wr := by rw [HW.out]; exact below_drewN (Below.refl _ _) n
      have hsz := hb.size
      by_cases hlt : k < m.length
      · obtain ⟨b, off, rfl, hbl, hc1⟩ := (hA.below hb) k m[k] (List.getElem?_eq_getElem hlt)
        have HD : Hid (m.drop k = m[k] :: m.drop (k + 1)) := hide (List.drop_eq_getElem_cons hlt)
        generalize m[k] = p at *
        have hz : (0 : Int) ≤ k := by omega
        have hz2 : (k : Int) < m.length := by omega
        cases hp2 : inR p 0 (full g) with
        | false =>
          have HQ := hide hp2
          have H3 : Hid (menuOk g m = false) := hide (by rw [HR.out, HS.out, HD.out]; unfold rangeOk; rw [List.all_cons, hp2]; simp)
          clear hp2
          go_wp2_with fail
          go_quiet ((go_at_call 40; exact Calls.quiet_of_same (l1In_is _ _ _ _ HQ _)))
          go_wp2_with fail
          go_ret
          exact ⟨by rw [H3.out]; rfl, _, by rw [HW.out, World.drewN_drewN]⟩
        | true =>
          have HQ := hide hp2
          have H3 : Hid (rangeOk (full g) m = rangeOk (full g) (m.drop (k + 1))) := hide (by rw [HS.out, HD.out]; unfold rangeOk; rw [List.all_cons, hp2]; rfl)
          clear hp2
          go_wp2_with fail
          go_quiet ((go_at_call 40; exact Calls.quiet_of_same (l1In_is _ _ _ _ HQ _)))
          go_wp2_with fail
          go_roundw
          case rel => exact ⟨k + 1, _, hlt, by go_num, H3, hide (by rw [HW.out, World.drewN_drewN])⟩
          case measure => simp [intOf]; omega
      · have H3 : Hid (menuOk g m = decide (m.length ≤ 6)) := hide (by rw [HR.out, HS.out, List.drop_of_length_le (by omega)]; unfold rangeOk; simp)
        by_cases h6 : m.length ≤ 6
        · have hd : decide ((m.length : Int) ≤ 6) = true := decide_eq_true (by omega)
          go_wp2_with fail
          go_ret
          exact ⟨by rw [H3.out, decide_eq_true h6]; rfl, n, HW.out⟩
        · have hd : decide ((m.length : Int) ≤ 6) = false := decide_eq_false (by omega)
          go_wp2_with fail
          go_ret
          exact ⟨by rw [H3.out, decide_eq_false h6]; rfl, n, HW.out⟩

theorem below_of_drew {w w' : World} (h : ∃ n, w' = w.drewN n) : Below w.heap.size w w' := by
  obtain ⟨n, rfl⟩ := h
  exact below_drewN (Below.refl _ _) n
theorem specMenuValid_any (g : Int) (A : Option Addr) (c : Nat) (m : List Int) (w : World) (hA : IntsAt w A m) (hl : m.length ≤ 1048576) :
    Calls Tryd.prog 17 #[.int .i64 g, .slice A m.length c] w fun e w' => e = .returned (.bool (menuOk g m)) ∧ Below w.heap.size w w' :=
  (specMenuValid_q g A c m w hA hl).mono fun _ _ h => ⟨h.1, below_of_drew h.2⟩
end Go.Proofs.YthbainbgimbjeaaDoor

namespace Go.Proofs.YthbainbgimbjeaaDoor
open Go.RowKit

theorem sz_step {x : Int} (h0 : 0 ≤ x) (h1 : x ≤ 9223372036854775807) : sz x = x % 2 + sz (x / 2) := by
  obtain ⟨n, rfl⟩ := Int.eq_ofNat_of_zero_le h0
  have := popN_step n (by omega)
  unfold sz
  rw [show ((n : Int) / 2).toNat = n / 2 from by omega, Int.toNat_natCast, this]
  omega

set_option maxHeartbeats 400000 in
theorem l6Count_any (s : Int) (w : World) (h0 : 0 ≤ s) (h1 : s ≤ 9223372036854775807) :
    Calls Tryd.prog 39 #[.int .i64 s] w fun e w' => e = .returned (.int .i64 (sz s)) ∧ w = w' := by
  go_enter Tryd.func39, Tryd.ntmps39
  go_wp2_with fail
  go_loopw [0, 3] (fun sv nv wr => ∃ x n : Int, 0 ≤ x ∧ x ≤ 9223372036854775807 ∧ 0 ≤ n ∧ n ≤ 64 ∧ sv = .int .i64 x ∧ nv = .int .i64 n ∧ Hid (sz s = n + sz x) ∧ w = wr) (fun sv _ _ => (intOf sv).toNat)
  case atStart => exact ⟨s, 0, h0, h1, by omega, by omega, rfl, rfl, hide (by omega), rfl⟩
  case round =>
    obtain ⟨x, n, hx0, hx1, hn0, hn1, rfl, rfl, HS, rfl⟩ := hrel
    by_cases hp : x > 0
    · have H3 : Hid (sz s = (n + x % 2) + sz (x / 2)) := hide (by rw [HS.out, sz_step hx0 hx1]; omega)
      have hb : n + x % 2 ≤ 64 := by
        have a := sz_bound s
        have b := sz_bound (x / 2)
        have := H3.out
        omega
      go_wp2_with fail
      go_roundw
      case rel => exact ⟨x / 2, n + x % 2, by omega, by omega, by omega, hb, rfl, rfl, H3, trivial⟩
      case measure => simp [intOf]; omega
    · have H3 : Hid (sz s = n) := hide (by
        have : x = 0 := by omega
        rw [HS.out, this]
        have : sz 0 = 0 := by decide +kernel
        omega)
      go_wp2_with fail
      go_ret
      exact ⟨by rw [H3.out]; rfl, rfl⟩

theorem wraps_u64 (n : Int) (h0 : 0 ≤ n) (h1 : n < 2 ^ 64) : IntKind.u64.wrap n = n := by rw [IntKind.wrap_u64]; omega
theorem and64 (a b : Nat) (ha : a < 18446744073709551616) (hb : b < 18446744073709551616) : bits .and .u64 (a : Int) (b : Int) = ((a &&& b : Nat) : Int) :=
  (bits_nat .u64 64 (by decide) wraps_u64 a b ha hb).1
theorem pc1 (n : Nat) (hn : n < 18446744073709551616) : IntKind.u64.wrap (bits .and .u64 ((n : Int) / 2) 6148914691236517205 + bits .and .u64 (n : Int) 6148914691236517205) = ((sw1 n : Nat) : Int) := by
  have a := and64 (n / 2) 6148914691236517205 (by omega) (by omega)
  have b := and64 n 6148914691236517205 hn (by omega)
  have l := sw1_lt n
  rw [show (n : Int) / 2 = ((n / 2 : Nat) : Int) from by omega, show (6148914691236517205 : Int) = ((6148914691236517205 : Nat) : Int) from rfl, a, b]
  unfold sw1 at l ⊢
  rw [wraps_u64 _ (by omega) (by omega)]
  omega
theorem pc2 (n : Nat) : IntKind.u64.wrap (bits .and .u64 (((sw1 n : Nat) : Int) / 4) 3689348814741910323 + bits .and .u64 ((sw1 n : Nat) : Int) 3689348814741910323) = ((sw2 (sw1 n) : Nat) : Int) := by
  have h1 := sw1_lt n
  have l := sw2_lt n
  generalize sw1 n = m at *
  have a := and64 (m / 4) 3689348814741910323 (by omega) (by omega)
  have b := and64 m 3689348814741910323 h1 (by omega)
  rw [show (m : Int) / 4 = ((m / 4 : Nat) : Int) from by omega, show (3689348814741910323 : Int) = ((3689348814741910323 : Nat) : Int) from rfl, a, b]
  unfold sw2 at l ⊢
  rw [wraps_u64 _ (by omega) (by omega)]
  omega
theorem pc3 (n : Nat) : bits .and .u64 (IntKind.u64.wrap (((sw2 (sw1 n) : Nat) : Int) / 16 + ((sw2 (sw1 n) : Nat) : Int))) 1085102592571150095 = ((sw3 (sw2 (sw1 n)) : Nat) : Int) := by
  have l := sw2_lt n
  generalize sw2 (sw1 n) = m at *
  have a := and64 (m / 16 + m) 1085102592571150095 (by omega) (by omega)
  rw [show (m : Int) / 16 + (m : Int) = ((m / 16 + m : Nat) : Int) from by omega, wraps_u64 _ (by omega) (by omega), show (1085102592571150095 : Int) = ((1085102592571150095 : Nat) : Int) from rfl, a]
  rfl
theorem pc4 (m : Nat) (h : m ≤ 1085102592571150095) : IntKind.u64.wrap ((m : Int) + (m : Int) / 256) = ((sw4 m : Nat) : Int) ∧ sw4 m ≤ 1100000000000000000 := by
  unfold sw4
  rw [wraps_u64 _ (by omega) (by omega)]
  omega
theorem pc5 (m : Nat) (h : m ≤ 1100000000000000000) : IntKind.u64.wrap ((m : Int) + (m : Int) / 65536) = ((sw5 m : Nat) : Int) ∧ sw5 m ≤ 1200000000000000000 := by
  unfold sw5
  rw [wraps_u64 _ (by omega) (by omega)]
  omega
theorem pc6 (m : Nat) (h : m ≤ 1200000000000000000) : IntKind.u64.wrap ((m : Int) + (m : Int) / 4294967296) = ((sw6 m : Nat) : Int) ∧ sw6 m ≤ 1300000000000000000 := by
  unfold sw6
  rw [wraps_u64 _ (by omega) (by omega)]
  omega
theorem pc7 (m : Nat) (h : m ≤ 1300000000000000000) : bits .and .i64 (m : Int) 127 = ((m % 128 : Nat) : Int) := by
  have := bits_mask .i64 63 (by decide) (fun n h0 h1 => by rw [IntKind.wrap_i64]; omega) 7 (by decide) (m : Int) (by omega) (by omega)
  rw [show (127 : Int) = 2 ^ 7 - 1 from by decide, this]
  omega

set_option maxHeartbeats 800000 in
theorem onesCount64_any (n : Nat) (w : World) (hn : n < 18446744073709551616) :
    Calls Tryd.prog 79 #[.int .u64 (n : Int)] w fun e w' => e = .returned (.int .i64 (popN n : Nat)) ∧ w = w' := by
  have HS := hide (swar n hn)
  have e1 := pc1 n hn
  have e2 := pc2 n
  have e3 := pc3 n
  have l3 := sw3_lt (sw2 (sw1 n))
  generalize sw1 n = x1 at *
  generalize sw2 x1 = x2 at *
  generalize sw3 x2 = x3 at *
  obtain ⟨e4, l4⟩ := pc4 x3 l3
  generalize sw4 x3 = x4 at *
  obtain ⟨e5, l5⟩ := pc5 x4 l4
  generalize sw5 x4 = x5 at *
  obtain ⟨e6, l6⟩ := pc6 x5 l5
  generalize sw6 x5 = x6 at *
  have H7 := hide (pc7 x6 l6)
  clear l3 l4 l5
  go_enter Tryd.func79, Tryd.ntmps79
  go_wp2_with fail
  go_ret
  exact ⟨by rw [← HS.out, ← H7.out]; rfl, rfl⟩

set_option maxHeartbeats 400000 in
theorem onesCount_any (n : Nat) (w : World) (hn : n < 18446744073709551616) :
    Calls Tryd.prog 70 #[.int .u64 (n : Int)] w fun e w' => e = .returned (.int .i64 (popN n : Nat)) ∧ w = w' := by
  go_enter Tryd.func70, Tryd.ntmps70
  go_wp2_with fail
  refine (onesCount64_any _ _ hn).mono ?_
  rintro e w' ⟨rfl, rfl⟩
  go_wp2_with fail
  go_ret
  exact ⟨rfl, rfl⟩

set_option maxHeartbeats 400000 in
theorem sizeOf_any (s : Int) (w : World) (h0 : 0 ≤ s) (h1 : s ≤ 9223372036854775807) :
    Calls Tryd.prog 58 #[.int .i64 s] w fun e w' => e = .returned (.int .i64 (sz s)) ∧ w = w' := by
  obtain ⟨n, rfl⟩ := Int.eq_ofNat_of_zero_le h0
  have hw : IntKind.u64.wrap (n : Int) = n := wraps_u64 _ h0 (by omega)
  go_enter Tryd.func58, Tryd.ntmps58
  go_wp2_with fail
  refine (onesCount_any _ _ (by omega)).mono ?_
  rintro e w' ⟨rfl, rfl⟩
  go_wp2_with fail
  go_ret
  exact ⟨rfl, rfl⟩
end Go.Proofs.YthbainbgimbjeaaDoor

namespace Go.Proofs.YthbainbgimbjeaaDoor
open Go.RowKit

def nil1 : List Int := []

theorem fed_no1 {g d : Int} {m : List Int} (h : menuOk g m = false) : fedL g m d = -1 := by unfold fedL; rw [h]; rfl
theorem fed_no2 {g d : Int} {m : List Int} (h : inR d 0 (full m.length) = false) : fedL g m d = -1 := by unfold fedL; rw [h]; simp
theorem fed_yes {g d : Int} {m : List Int} (h : menuOk g m = true) (h2 : inR d 0 (full m.length) = true) : fedL g m d = fedGo d 0 m 0 := by unfold fedL; rw [h, h2]; rfl
theorem fed_range {g d : Int} {m : List Int} (h : menuOk g m = true) : 0 ≤ fedGo d 0 m 0 ∧ fedGo d 0 m 0 < 64 :=
  fedGo_range m 0 0 (fun x hx => ⟨(menuOk_at h hx).1, (menuOk_at h hx).2.2⟩) (by omega) (by omega)
theorem full_nat (n : Nat) : full (n : Int) = 2 ^ n - 1 := by unfold full; rw [Int.toNat_natCast]

set_option maxHeartbeats 800000 in
theorem implFedBy_any (g : Int) (A : Option Addr) (c : Nat) (m : List Int) (d : Int) (w : World) (hA : IntsAt w A m) (hl : m.length ≤ 1048576) :
    Calls Tryd.prog 22 #[.int .i64 g, .slice A m.length c, .int .i64 d] w fun e w' => e = .returned (.int .i64 (fedL g m d)) ∧ Below w.heap.size w w' := by
  cases hM : menuOk g m with
  | false =>
    have HM := hide hM
    have HR := hide (fed_no1 (d := d) hM)
    clear hM
    go_enter Tryd.func22, Tryd.ntmps22
    go_wp2_with fail
    refine (implMenuValid_any _ _ _ _ _ hA hl).mono ?_
    rintro e w1 ⟨rfl, hB⟩
    rw [HM.out]
    go_wp2_with fail
    go_ret
    exact ⟨by rw [HR.out]; rfl, hB⟩
  | true =>
    have HM := hide hM
    have h6 := menuOk_len hM
    have HX := hide (fun x hx => menuOk_at hM (x := x) hx)
    have hp := pow_range6 m.length h6
    have HF := hide (full_nat m.length)
    cases hD : inR d 0 (full m.length) with
    | false =>
      have HD := hide hD
      have HR := hide (fed_no2 (g := g) hD)
      rw [HF.out] at HD
      clear hM hD
      go_enter Tryd.func22, Tryd.ntmps22
      go_wp2_with fail
      refine (implMenuValid_any _ _ _ _ _ hA hl).mono ?_
      rintro e w1 ⟨rfl, hB⟩
      rw [HM.out]
      go_wp2_with fail
      refine (inRange_is _ _ _ _ HD _).mono ?_
      rintro e w2 ⟨rfl, rfl⟩
      go_wp2_with fail
      go_ret
      exact ⟨by rw [HR.out]; rfl, hB⟩
    | true =>
      have HD := hide hD
      have HR := hide (fed_yes hM hD)
      have hd := inR_iff.1 hD
      have hd0 := hd.1
      have hd1 : d < 64 := by have := full_range (g := m.length) (by omega) (by omega); omega
      rw [HF.out] at HD
      clear hM hD hd
      go_enter Tryd.func22, Tryd.ntmps22
      go_wp2_with fail
      refine (implMenuValid_any _ _ _ _ _ hA hl).mono ?_
      rintro e w1 ⟨rfl, hB⟩
      rw [HM.out]
      go_wp2_with fail
      refine (inRange_is _ _ _ _ HD _).mono ?_
      rintro e w2 ⟨rfl, rfl⟩
      have hsz1 := hB.size
      clear hp
      go_wp2_with fail
      go_loopw [7, 25] (fun sv i wr => ∃ (k : Nat) (s : Int), k ≤ m.length ∧ i = .int .i64 k ∧ sv = .int .i64 s ∧ 0 ≤ s ∧ s < 64 ∧ Hid (fedL g m d = fedGo d k (m.drop k) s) ∧ Below w.heap.size w wr) (fun _ i _ => m.length - (intOf i).toNat)
      case atStart => exact ⟨0, 0, Nat.zero_le _, rfl, rfl, by omega, by omega, HR, hB⟩
      case round =>
        obtain ⟨k, s, hk, rfl, rfl, hs0, hs1, HG, hb⟩ := hrel
        have hsz := hb.size
        by_cases hlt : k < m.length
        · obtain ⟨b, off, rfl, hbl, hc1⟩ := (hA.below hb) k m[k] (List.getElem?_eq_getElem hlt)
          have HE : Hid (m.drop k = m[k] :: m.drop (k + 1)) := hide (List.drop_eq_getElem_cons hlt)
          have hx := HX.out m[k] (List.getElem_mem hlt)
          generalize m[k] = p at *
          have hx0 : 0 ≤ p := hx.1
          have hx1 : p < 64 := hx.2.2
          clear hx
          have hz : (0 : Int) ≤ k := by omega
          have hz2 : (k : Int) < m.length := by omega
          have hz3 : (k : Int) < 6 := by omega
          cases hh : hasB d k with
          | false =>
            have HH := hide hh
            have H3 : Hid (fedL g m d = fedGo d (k + 1) (m.drop (k + 1)) s) := hide (by rw [HG.out, HE.out, fedGo, hh]; rfl)
            clear hh
            go_wp2_with fail
            refine (inSet_w _ _ _ hd0 hd1 hz hz3 false (by rw [Int.toNat_natCast]; exact HH)).mono ?_
            rintro e w3 ⟨rfl, rfl⟩
            go_wp2_with fail
            go_roundw
            case rel => exact ⟨k + 1, s, hlt, by go_num, rfl, hs0, hs1, H3, hb⟩
            case measure => simp [intOf]; omega
          | true =>
            have HH := hide hh
            have H3 : Hid (fedL g m d = fedGo d (k + 1) (m.drop (k + 1)) (orI s p)) := hide (by rw [HG.out, HE.out, fedGo, hh]; rfl)
            have HO : Hid (bits .or .i64 s p = orI s p) := hide (or_all' _ _ hs0 hs1 hx0 hx1)
            have ho := orI_lt hs1 hx1
            clear hh
            go_wp2_with fail
            refine (inSet_w _ _ _ hd0 hd1 hz hz3 true (by rw [Int.toNat_natCast]; exact HH)).mono ?_
            rintro e w3 ⟨rfl, rfl⟩
            go_wp2_with fail
            go_roundw
            case rel => exact ⟨k + 1, orI s p, hlt, by go_num, by rw [HO.out], ho.1, ho.2, H3, hb⟩
            case measure => simp [intOf]; omega
        · have HE : Hid (fedL g m d = s) := hide (by rw [HG.out, List.drop_of_length_le (by omega)]; rfl)
          go_wp2_with fail
          go_ret
          exact ⟨by rw [HE.out]; rfl, hb⟩

set_option maxHeartbeats 800000 in
theorem l6Fed_any (A : Option Addr) (c : Nat) (m : List Int) (d : Int) (w : World) (hA : IntsAt w A m) (hl : m.length ≤ 6) (HX : Hid (∀ x ∈ m, 0 ≤ x ∧ x < 64)) (hd0 : 0 ≤ d) (hd1 : d < 64) :
    Calls Tryd.prog 49 #[.slice A m.length c, .int .i64 d] w fun e w' => e = .returned (.int .i64 (fedGo d 0 m 0)) ∧ w = w' := by
  go_enter Tryd.func49, Tryd.ntmps49
  go_wp2_with fail
  go_loopw [5, 6] (fun sv i wr => ∃ (k : Nat) (s : Int), k ≤ m.length ∧ i = .int .i64 k ∧ sv = .int .i64 s ∧ 0 ≤ s ∧ s < 64 ∧ Hid (fedGo d 0 m 0 = fedGo d k (m.drop k) s) ∧ w = wr) (fun _ i _ => m.length - (intOf i).toNat)
  case atStart => exact ⟨0, 0, Nat.zero_le _, rfl, rfl, by omega, by omega, hide rfl, rfl⟩
  case round =>
    obtain ⟨k, s, hk, rfl, rfl, hs0, hs1, HG, rfl⟩ := hrel
    by_cases hlt : k < m.length
    · obtain ⟨b, off, rfl, hbl, hc1⟩ := hA k m[k] (List.getElem?_eq_getElem hlt)
      have HE : Hid (m.drop k = m[k] :: m.drop (k + 1)) := hide (List.drop_eq_getElem_cons hlt)
      have hx := HX.out m[k] (List.getElem_mem hlt)
      generalize m[k] = p at *
      have hx0 : 0 ≤ p := hx.1
      have hx1 : p < 64 := hx.2
      clear hx
      have hz : (0 : Int) ≤ k := by omega
      have hz2 : (k : Int) < m.length := by omega
      have hq := div_range d k hd0 hd1
      cases hh : hasB d k with
      | false =>
        have hf : (d / 2 ^ k % 2 == 1) = false := hh
        have H3 : Hid (fedGo d 0 m 0 = fedGo d (k + 1) (m.drop (k + 1)) s) := hide (by rw [HG.out, HE.out, fedGo, hh]; rfl)
        clear hh
        go_wp2_with fail
        go_roundw
        case rel => exact ⟨k + 1, s, hlt, by go_num, rfl, hs0, hs1, H3, trivial⟩
        case measure => simp [intOf]; omega
      | true =>
        have hf : (d / 2 ^ k % 2 == 1) = true := hh
        have H3 : Hid (fedGo d 0 m 0 = fedGo d (k + 1) (m.drop (k + 1)) (orI s p)) := hide (by rw [HG.out, HE.out, fedGo, hh]; rfl)
        have ho := orI_lt hs1 hx1
        clear hh
        go_wp2_with fail
        refine (l1Join_w _ _ _ hs0 hs1 hx0 hx1).mono ?_
        rintro e w3 ⟨rfl, rfl⟩
        go_wp2_with fail
        go_roundw
        case rel => exact ⟨k + 1, orI s p, hlt, by go_num, rfl, ho.1, ho.2, H3, trivial⟩
        case measure => simp [intOf]; omega
    · have HE : Hid (fedGo d 0 m 0 = s) := hide (by rw [HG.out, List.drop_of_length_le (by omega)]; rfl)
      go_wp2_with fail
      go_ret
      exact ⟨by rw [HE.out]; rfl, rfl⟩

set_option maxHeartbeats 800000 in
theorem specFedBy_q (g : Int) (A : Option Addr) (c : Nat) (m : List Int) (d : Int) (w : World) (hA : IntsAt w A m) (hl : m.length ≤ 1048576) :
    Calls Tryd.prog 32 #[.int .i64 g, .slice A m.length c, .int .i64 d] w fun e w' => e = .returned (.int .i64 (fedL g m d)) ∧ ∃ n, w' = w.drewN n := by
  cases hM : menuOk g m with
  | false =>
    have HM := hide hM
    have HR := hide (fed_no1 (d := d) hM)
    clear hM
    go_enter Tryd.func32, Tryd.ntmps32
    go_wp2_with fail
    refine (specMenuValid_q _ _ _ _ _ hA hl).mono ?_
    rintro e w1 ⟨rfl, hn1⟩
    have HW := hide hn1
    have hB := below_of_drew hn1
    clear hn1
    rw [HM.out]
    go_wp2_with fail
    go_ret
    exact ⟨by rw [HR.out]; rfl, HW.out⟩
  | true =>
    have HM := hide hM
    have h6 := menuOk_len hM
    have HX : Hid (∀ x ∈ m, 0 ≤ x ∧ x < 64) := hide (fun x hx => ⟨(menuOk_at hM hx).1, (menuOk_at hM hx).2.2⟩)
    have hp := pow_range6 m.length h6
    have HF := hide (full_nat m.length)
    cases hD : inR d 0 (full m.length) with
    | false =>
      have HD := hide hD
      have HR := hide (fed_no2 (g := g) hD)
      rw [HF.out] at HD
      clear hM hD
      go_enter Tryd.func32, Tryd.ntmps32
      go_wp2_with fail
      refine (specMenuValid_q _ _ _ _ _ hA hl).mono ?_
      rintro e w1 ⟨rfl, hn1⟩
      have HW := hide hn1
      have hB := below_of_drew hn1
      clear hn1
      rw [HM.out]
      go_wp2_with fail
      refine (l1In_w _ _ _ _ HD _).mono ?_
      rintro e w2 ⟨rfl, rfl⟩
      go_wp2_with fail
      go_ret
      exact ⟨by rw [HR.out]; rfl, HW.out⟩
    | true =>
      have HD := hide hD
      have HR := hide (fed_yes hM hD)
      have hd := inR_iff.1 hD
      have hd0 := hd.1
      have hd1 : d < 64 := by have := full_range (g := m.length) (by omega) (by omega); omega
      rw [HF.out] at HD
      clear hM hD hd
      go_enter Tryd.func32, Tryd.ntmps32
      go_wp2_with fail
      refine (specMenuValid_q _ _ _ _ _ hA hl).mono ?_
      rintro e w1 ⟨rfl, hn1⟩
      have HW := hide hn1
      have hB := below_of_drew hn1
      clear hn1
      rw [HM.out]
      go_wp2_with fail
      refine (l1In_w _ _ _ _ HD _).mono ?_
      rintro e w2 ⟨rfl, rfl⟩
      clear hp
      go_wp2_with fail
      refine (l6Fed_any _ _ _ _ _ (hA.below hB) h6 HX hd0 hd1).mono ?_
      rintro e w3 ⟨rfl, rfl⟩
      go_wp2_with fail
      go_ret
      exact ⟨by rw [HR.out]; rfl, HW.out⟩

theorem specFedBy_any (g : Int) (A : Option Addr) (c : Nat) (m : List Int) (d : Int) (w : World) (hA : IntsAt w A m) (hl : m.length ≤ 1048576) :
    Calls Tryd.prog 32 #[.int .i64 g, .slice A m.length c, .int .i64 d] w fun e w' => e = .returned (.int .i64 (fedL g m d)) ∧ Below w.heap.size w w' :=
  (specFedBy_q g A c m d w hA hl).mono fun _ _ h => ⟨h.1, below_of_drew h.2⟩

theorem feeds_no {g d : Int} {m : List Int} (h : decide (0 ≤ fedL g m d) = false) : feedsL g m d = false := by unfold feedsL; rw [h]; rfl
theorem fedL_of {g d : Int} {m : List Int} (h : 0 ≤ fedL g m d) : menuOk g m = true := by
  unfold fedL at h
  split at h
  · rename_i h2
    rw [Bool.and_eq_true] at h2
    exact h2.1
  · omega

set_option maxHeartbeats 800000 in
theorem implFeedsAll_any (g : Int) (A : Option Addr) (c : Nat) (m : List Int) (d : Int) (w : World) (hA : IntsAt w A m) (hl : m.length ≤ 1048576) :
    Calls Tryd.prog 9 #[.int .i64 g, .slice A m.length c, .int .i64 d] w fun e w' => e = .returned (.bool (feedsL g m d)) ∧ Below w.heap.size w w' := by
  cases hP : decide (0 ≤ fedL g m d) with
  | false =>
    have HR := hide (feeds_no hP)
    have HC := hide (implFedBy_any g A c m d w hA hl)
    generalize fedL g m d = f at *
    have hP2 : ¬ 0 ≤ f := of_decide_eq_false hP
    go_enter Tryd.func9, Tryd.ntmps9
    go_wp2_with fail
    refine (HC.out).mono ?_
    rintro e w1 ⟨rfl, hB⟩
    go_wp2_with fail
    go_ret
    exact ⟨by rw [HR.out]; rfl, hB⟩
  | true =>
    have hP2 : 0 ≤ fedL g m d := of_decide_eq_true hP
    have HR : Hid (feedsL g m d = (fedL g m d == full g)) := hide (by unfold feedsL; rw [hP]; rfl)
    have hM := fedL_of hP2
    have hg0 := (menuOk_g hM).1
    have hg1 := (menuOk_g hM).2
    have HC := hide (implFedBy_any g A c m d w hA hl)
    clear hM
    generalize fedL g m d = f at *
    go_enter Tryd.func9, Tryd.ntmps9
    go_wp2_with fail
    refine (HC.out).mono ?_
    rintro e w1 ⟨rfl, hB⟩
    go_wp2_with fail
    refine (allGuests_any _ _ hg0 hg1).mono ?_
    rintro e w2 ⟨rfl, rfl⟩
    go_wp2_with fail
    go_ret
    exact ⟨by rw [HR.out]; rfl, hB⟩

set_option maxHeartbeats 800000 in
theorem specFeedsAll_q (g : Int) (A : Option Addr) (c : Nat) (m : List Int) (d : Int) (w : World) (hA : IntsAt w A m) (hl : m.length ≤ 1048576) :
    Calls Tryd.prog 10 #[.int .i64 g, .slice A m.length c, .int .i64 d] w fun e w' => e = .returned (.bool (feedsL g m d)) ∧ ∃ n, w' = w.drewN n := by
  cases hP : decide (0 ≤ fedL g m d) with
  | false =>
    have HR := hide (feeds_no hP)
    have HC := hide (fun N => specFedBy_q g A c m d (w.drewN N) (hA.below (below_drewN (Below.refl _ _) N)) hl)
    generalize fedL g m d = f at *
    have hP2 : decide (f ≥ 0) = false := hP
    clear hA
    go_enter Tryd.func10, Tryd.ntmps10
    go_wp2_with fail
    go_quiet ((go_at_call 32; exact Calls.quiet_of (HC.out _)))
    go_wp2_with fail
    go_ret
    exact ⟨by rw [HR.out]; rfl, _, rfl⟩
  | true =>
    have hP0 : 0 ≤ fedL g m d := of_decide_eq_true hP
    have HR : Hid (feedsL g m d = (fedL g m d == full g)) := hide (by unfold feedsL; rw [hP]; rfl)
    have hM := fedL_of hP0
    have hg0 := (menuOk_g hM).1
    have hg1 := (menuOk_g hM).2
    have hp := pow_range6 g.toNat (by omega)
    have hw1 : IntKind.i64.wrap (2 ^ g.toNat) = 2 ^ g.toNat := IntWalk.i64_in _ (by omega)
    have hw2 : IntKind.i64.wrap (2 ^ g.toNat - 1) = full g := IntWalk.i64_in _ (by omega)
    have HC := hide (fun N => specFedBy_q g A c m d (w.drewN N) (hA.below (below_drewN (Below.refl _ _) N)) hl)
    clear hM hA
    generalize fedL g m d = f at *
    have hP2 : decide (f ≥ 0) = true := hP
    go_enter Tryd.func10, Tryd.ntmps10
    go_wp2_with fail
    go_quiet ((go_at_call 32; exact Calls.quiet_of (HC.out _)))
    go_wp2_with fail
    go_ret
    exact ⟨by rw [HR.out]; rfl, _, rfl⟩
theorem specFeedsAll_any (g : Int) (A : Option Addr) (c : Nat) (m : List Int) (d : Int) (w : World) (hA : IntsAt w A m) (hl : m.length ≤ 1048576) :
    Calls Tryd.prog 10 #[.int .i64 g, .slice A m.length c, .int .i64 d] w fun e w' => e = .returned (.bool (feedsL g m d)) ∧ Below w.heap.size w w' :=
  (specFeedsAll_q g A c m d w hA hl).mono fun _ _ h => ⟨h.1, below_of_drew h.2⟩

def manyL (d : Int) : Int := if d < 0 then -1 else sz d
theorem lit_bound {n : Int} (h : (Lit.int .i64 n).wf = true) : -9223372036854775808 ≤ n ∧ n ≤ 9223372036854775807 := by
  simp [Lit.wf, IntKind.min, IntKind.max, IntKind.signed, IntKind.bits] at h
  omega

end Go.Proofs.YthbainbgimbjeaaDoor

namespace Go.Proofs.YthbainbgimbjeaaDoor
open Go.RowKit Go.ChangeShapes Go.WideShapes Go.ChangeAt Go.Deep

set_option maxHeartbeats 800000 in
theorem isApart_any (s : Int) (A : Option Addr) (c : Nat) (ms : List Int) (w : World) (hA : IntsAt w A ms) (hl : ms.length ≤ 6) (HX : Hid (∀ x ∈ ms, 0 ≤ x ∧ x < 64)) (h0 : 0 ≤ s) (h1 : s < 64) :
    Calls Tryd.prog 57 #[.int .i64 s, .slice A ms.length c] w fun e w' => e = .returned (.bool (apartS s ms)) ∧ w = w' := by
  go_enter Tryd.func57, Tryd.ntmps57
  go_wp2_with fail
  go_loopw [9] (fun i wr => ∃ (k : Nat), k ≤ ms.length ∧ i = .int .i64 k ∧ Hid (apartS s ms = apGo s k (ms.drop k)) ∧ w = wr) (fun i _ => ms.length - (intOf i).toNat)
  case atStart => exact ⟨0, Nat.zero_le _, rfl, hide rfl, rfl⟩
  case round =>
    obtain ⟨k, hk, rfl, HG, rfl⟩ := hrel
    by_cases hlt : k < ms.length
    · obtain ⟨b, off, rfl, hbl, hc1⟩ := hA k ms[k] (List.getElem?_eq_getElem hlt)
      have HE : Hid (ms.drop k = ms[k] :: ms.drop (k + 1)) := hide (List.drop_eq_getElem_cons hlt)
      have hx := HX.out ms[k] (List.getElem_mem hlt)
      generalize ms[k] = p at *
      have hx0 : 0 ≤ p := hx.1
      have hx1 : p < 64 := hx.2
      clear hx
      have hz : (0 : Int) ≤ k := by omega
      have hz2 : (k : Int) < ms.length := by omega
      have hz3 : (k : Int) < 6 := by omega
      have hand := and_all' hx0 hx1 h0 h1
      cases hh : hasB s k with
      | false =>
        have HH := hide hh
        have H3 : Hid (apartS s ms = apGo s (k + 1) (ms.drop (k + 1))) := hide (by rw [HG.out, HE.out, apGo, hh]; rfl)
        clear hh hand
        go_wp2_with fail
        refine (inSet_w _ _ _ h0 h1 hz hz3 false (by rw [Int.toNat_natCast]; exact HH)).mono ?_
        rintro e w3 ⟨rfl, rfl⟩
        go_wp2_with fail
        go_roundw
        case rel => exact ⟨k + 1, hlt, by go_num, H3, trivial⟩
        case measure => simp [intOf]; omega
      | true =>
        have HH := hide hh
        cases hm : (meetI p s == 0) with
        | false =>
          have H3 : Hid (apartS s ms = false) := hide (by rw [HG.out, HE.out, apGo, hh, hm]; rfl)
          have hf : (bits .and .i64 p s != 0) = true := by rw [hand]; unfold bne; rw [hm]; rfl
          clear hh hm hand
          go_wp2_with fail
          refine (inSet_w _ _ _ h0 h1 hz hz3 true (by rw [Int.toNat_natCast]; exact HH)).mono ?_
          rintro e w3 ⟨rfl, rfl⟩
          go_wp2_with fail
          go_ret
          exact ⟨by rw [H3.out]; rfl, rfl⟩
        | true =>
          have H3 : Hid (apartS s ms = apGo s (k + 1) (ms.drop (k + 1))) := hide (by rw [HG.out, HE.out, apGo, hm]; simp)
          have hf : (bits .and .i64 p s != 0) = false := by rw [hand]; unfold bne; rw [hm]; rfl
          clear hh hm hand
          go_wp2_with fail
          refine (inSet_w _ _ _ h0 h1 hz hz3 true (by rw [Int.toNat_natCast]; exact HH)).mono ?_
          rintro e w3 ⟨rfl, rfl⟩
          go_wp2_with fail
          go_roundw
          case rel => exact ⟨k + 1, hlt, by go_num, H3, trivial⟩
          case measure => simp [intOf]; omega
    · have HE : Hid (apartS s ms = true) := hide (by rw [HG.out, List.drop_of_length_le (by omega)]; rfl)
      go_wp2_with fail
      go_ret
      exact ⟨by rw [HE.out]; rfl, rfl⟩

end Go.Proofs.YthbainbgimbjeaaDoor

namespace Go.Proofs.YthbainbgimbjeaaDoor
open Go.RowKit Go.ChangeShapes Go.WideShapes Go.ChangeAt Go.Deep

set_option maxRecDepth 100000 in
set_option maxHeartbeats 2000000 in
theorem sharersOf_any (g : Int) (A : Option Addr) (c : Nat) (m : List Int) (w : World) (hA : IntsAt w A m) (hl : m.length ≤ 6) (HX : Hid (∀ x ∈ m, 0 ≤ x ∧ x < 64)) (h0 : 0 ≤ g) (h1 : g ≤ 6) :
    Calls Tryd.prog 37 #[.int .i64 g, .slice A m.length c] w fun e w' => ∃ v, e = .returned v ∧ IntSl w' w.heap.size v (sharersL g m) ∧ Below w.heap.size w w' := by
  obtain ⟨n, rfl⟩ := Int.eq_ofNat_of_zero_le h0
  have hn : n ≤ 6 := by omega
  have hmk := make_ints n (by omega)
  have HR : Hid (sharersL n m = tab n (fun i => shGo i m 0)) := hide rfl
  have HZ0 := hide (fun (W : World) => zeros_tabG W (lo := W.heap.size) n (Nat.le_refl _) (by omega))
  go_enter Tryd.func37, Tryd.ntmps37
  go_wp2_with fail
  clear hmk
  have HS0 := HZ0.out w
  go_loopw [13] (fun i wr => ∃ (k : Nat), k ≤ n ∧ i = .int .i64 k ∧ IntSl wr w.heap.size (.slice (some ⟨w.heap.size, 0, none⟩) n n) (tab n (fun j => if j < k then shGo j m 0 else 0)) ∧ w.heap.size < wr.heap.size ∧ Below w.heap.size w wr) (fun i _ => n - (intOf i).toNat)
  case atStart => exact ⟨0, Nat.zero_le _, rfl, by rw [show tab n (fun j => if j < 0 then shGo j m 0 else 0) = tab n (fun _ => 0) from tab_congr (fun j _ => by simp)]; exact HS0, by simp, by go_grown⟩
  case round =>
    obtain ⟨k, hk, rfl, hS, hlt0, hb⟩ := hrel
    have hsz := hb.size
    by_cases hlt : k < n
    · have hz : (0 : Int) ≤ k := by omega
      have hz2 : (k : Int) < n := by omega
      have hz3 : (k : Int) < 6 := by omega
      have HS := hide hS
      clear hS
      go_wp2_with fail
      obtain ⟨wo, rfl⟩ : ∃ wo : World, wo = wr := ⟨_, rfl⟩
      go_loopw [18] (fun i wr => ∃ (j : Nat) (s : Int), j ≤ m.length ∧ i = .int .i64 j ∧ 0 ≤ s ∧ s < 64 ∧ Hid (shGo k m 0 = shGo k (m.drop j) s) ∧ IntSl wr w.heap.size (.slice (some ⟨w.heap.size, 0, none⟩) n n) (tab n (fun i => if i = k then s else if i < k then shGo i m 0 else 0)) ∧ w.heap.size < wr.heap.size ∧ Below w.heap.size w wr) (fun i _ => m.length - (intOf i).toNat)
      case atStart => exact ⟨0, 0, Nat.zero_le _, rfl, by omega, by omega, hide rfl, by rw [show tab n (fun i => if i = k then (0 : Int) else if i < k then shGo i m 0 else 0) = tab n (fun j => if j < k then shGo j m 0 else 0) from tab_congr (fun j _ => by by_cases e : j = k <;> simp [e])]; exact HS.out, hlt0, hb⟩
      case round =>
        obtain ⟨j, s, hj, rfl, hs0, hs1, HG, hS2, hlt2, hb2⟩ := hrel
        have hsz2 := hb2.size
        by_cases hjl : j < m.length
        · obtain ⟨b, off, rfl, hbl, hc1⟩ := (hA.below hb2) j m[j] (List.getElem?_eq_getElem hjl)
          have HE : Hid (m.drop j = m[j] :: m.drop (j + 1)) := hide (List.drop_eq_getElem_cons hjl)
          have hx := HX.out m[j] (List.getElem_mem hjl)
          generalize m[j] = p at *
          have hx0 : 0 ≤ p := hx.1
          have hx1 : p < 64 := hx.2
          clear hx
          have hy : (0 : Int) ≤ j := by omega
          have hy2 : (j : Int) < m.length := by omega
          cases hh : hasB p k with
          | false =>
            have HH := hide hh
            have H3 : Hid (shGo k m 0 = shGo k (m.drop (j + 1)) s) := hide (by rw [HG.out, HE.out, shGo, hh]; rfl)
            have HS2 := hide hS2
            clear hh hS2
            go_wp2_with fail
            refine (inSet_w _ _ _ hx0 hx1 hz hz3 false (by rw [Int.toNat_natCast]; exact HH)).mono ?_
            rintro e w3 ⟨rfl, rfl⟩
            go_wp2_with fail
            go_roundw
            case rel => exact ⟨j + 1, s, hjl, by go_num, hs0, hs1, H3, HS2.out, hlt2, hb2⟩
            case measure => simp [intOf]; omega
          | true =>
            have HH := hide hh
            have hpw := pow_range k (by omega)
            have hd := drop_range hx0 hx1 (y := 2 ^ k) (by omega) hpw.2
            have ho := orI_lt (b := dropI p (2 ^ k)) hs1 (by omega)
            have hw1 : IntKind.i64.wrap (2 ^ k) = 2 ^ k := IntWalk.i64_in _ (by omega)
            have hw2 : bits .andNot .i64 p (2 ^ k) = dropI p (2 ^ k) := andNot_all' hx0 hx1 (by omega) hpw.2
            have hw3 : bits .or .i64 s (dropI p (2 ^ k)) = orI s (dropI p (2 ^ k)) := or_all' _ _ hs0 hs1 hd.1 (by omega)
            have H3 : Hid (shGo k m 0 = shGo k (m.drop (j + 1)) (orI s (dropI p (2 ^ k)))) := hide (by rw [HG.out, HE.out, shGo, hh]; rfl)
            have hcell := hS2.cellAt (tab_at (f := fun i => if i = k then s else if i < k then shGo i m 0 else 0) hlt)
            rw [if_pos rfl] at hcell
            have hfz := hS2.frozenAt k
            have HN : Hid (IntSl (wr.setCell ⟨w.heap.size, k, none⟩ (.int .i64 (orI s (dropI p (2 ^ k))))) w.heap.size (.slice (some ⟨w.heap.size, 0, none⟩) n n) (tab n (fun i => if i = k then orI s (dropI p (2 ^ k)) else if i < k then shGo i m 0 else 0))) := hide (by
              have := IntSl.store hS2 k (orI s (dropI p (2 ^ k)))
              rw [tab_set] at this
              rw [show tab n (fun i => if i = k then orI s (dropI p (2 ^ k)) else if i < k then shGo i m 0 else 0) = tab n (fun i => if i = k then orI s (dropI p (2 ^ k)) else if i = k then s else if i < k then shGo i m 0 else 0) from tab_congr (fun i _ => by by_cases e : i = k <;> simp [e])]
              exact this)
            have HB5 := hide (hb2.grown (IntSl.grownSet hS2 k (orI s (dropI p (2 ^ k)))) hsz2 (fun k hk => by injection hk with hk; omega))
            clear hh hS2
            go_wp2_with fail
            refine (inSet_w _ _ _ hx0 hx1 hz hz3 true (by rw [Int.toNat_natCast]; exact HH)).mono ?_
            rintro e w3 ⟨rfl, rfl⟩
            go_wp2_with fail
            refine still_tail_drew 10 (by kernel_rfl) (by kernel_rfl) ?_
            simp only [List.take_succ_cons, List.take_zero, List.drop_succ_cons, List.drop_zero]
            repeat still_step
            refine wpStill_nil ?_
            go_wp2_with fail
            go_roundw
            case rel => exact ⟨j + 1, _, hjl, by go_num, ho.1, ho.2, H3, IntSl.drew HN.out, by simp; exact hlt2, HB5.out.drew⟩
            case measure => simp [intOf]; omega
        · have H3 : Hid (shGo k m 0 = s) := hide (by rw [HG.out, List.drop_of_length_le (by omega)]; rfl)
          have HN : Hid (IntSl wr w.heap.size (.slice (some ⟨w.heap.size, 0, none⟩) n n) (tab n (fun j => if j < k + 1 then shGo j m 0 else 0))) := hide (by
            rw [show tab n (fun j => if j < k + 1 then shGo j m 0 else 0) = tab n (fun i => if i = k then s else if i < k then shGo i m 0 else 0) from tab_congr (fun i _ => by
              by_cases e : i = k
              · subst e; rw [if_pos (by omega), if_pos rfl, H3.out]
              · rw [if_neg e]
                by_cases e2 : i < k
                · rw [if_pos e2, if_pos (by omega)]
                · rw [if_neg e2, if_neg (by omega)])]
            exact hS2)
          clear hS2
          go_wp2_with fail
          go_roundw
          case rel => exact ⟨k + 1, hlt, by go_num, HN.out, hlt2, hb2⟩
          case measure => simp [intOf]; omega
    · have HN : Hid (IntSl wr w.heap.size (.slice (some ⟨w.heap.size, 0, none⟩) n n) (sharersL n m)) := hide (by
        rw [HR.out, show tab n (fun i => shGo i m 0) = tab n (fun j => if j < k then shGo j m 0 else 0) from tab_congr (fun i hi => by rw [if_pos (by omega)])]
        exact hS)
      clear hS
      go_wp2_with fail
      exact bodyPost_ret (results_tmp rfl _ _ _) rfl ⟨.slice (some ⟨w.heap.size, 0, none⟩) n n, rfl, HN.out, hb⟩
end Go.Proofs.YthbainbgimbjeaaDoor

namespace Go.Proofs.YthbainbgimbjeaaDoor
open Go.RowKit Go.ChangeShapes Go.WideShapes Go.ChangeAt Go.Deep

theorem sharersL_len (g : Int) (m : List Int) : (sharersL g m).length = g.toNat := by unfold sharersL; exact tab_len _ _
theorem sharersL_mem {g : Int} {m : List Int} (hg : g ≤ 6) (hm : ∀ x ∈ m, 0 ≤ x ∧ x < 64) {x : Int} (hx : x ∈ sharersL g m) : 0 ≤ x ∧ x < 64 := by
  obtain ⟨i, hi⟩ := List.getElem?_of_mem hx
  have hil := (List.getElem?_eq_some_iff.1 hi).1
  rw [sharersL_len] at hil
  unfold sharersL at hi
  rw [tab_at hil] at hi
  injection hi with hi
  rw [← hi]
  exact shGo_range (by omega) m 0 hm (by omega) (by omega)

theorem ap_no {g : Int} {m xs : List Int} (h : menuOk g m = false) : apartL g m xs = false := by unfold apartL; rw [h]; rfl

theorem IntsAt.cellOf {w : World} {b off : Nat} {xs : List Int} (h : IntsAt w (some ⟨b, off, none⟩) xs) {i : Nat} {x : Int} (hx : xs[i]? = some x) : w.cell? ⟨b, off + i, none⟩ = some (.int .i64 x) := by
  obtain ⟨b', off', e, _, h1⟩ := h i x hx
  injection e with e
  injection e with e1 e2
  subst e1 e2
  exact h1
theorem eatsBoth_cons (e : Int) (r : List Int) (x y : Nat) : eatsBoth (e :: r) x y = ((hasB e x && hasB e y) || eatsBoth r x y) := by unfold eatsBoth; rw [List.any_cons]
theorem eatsBoth_nil (x y : Nat) : eatsBoth [] x y = false := rfl
theorem row_range {g : Int} {m xs : List Int} {k : Nat} (h : rowApart g m xs k = true) : 0 ≤ xs.getD k 0 ∧ xs.getD k 0 ≤ g - 1 := by
  unfold rowApart at h
  simp only [Bool.and_eq_true] at h
  exact inR_iff.1 h.1.1

theorem apart_false {g : Int} {m xs : List Int} {k : Nat} (hk : k < xs.length) (h : rowApart g m xs k = false) : apartL g m xs = false := by
  unfold apartL
  rw [allN_false hk h]
  simp

set_option maxRecDepth 100000 in
set_option maxHeartbeats 4000000 in
theorem specApartValid_any (g : Int) (A B : Option Addr) (c d : Nat) (m xs : List Int) (w : World) (hA : IntsAt w A m) (hl : m.length ≤ 1048576) (hB : IntsAt w B xs) (hm : xs.length ≤ 1048576) :
    Calls Tryd.prog 46 #[.int .i64 g, .slice A m.length c, .slice B xs.length d] w fun e w' => e = .returned (.bool (apartL g m xs)) ∧ Below w.heap.size w w' := by
  cases hM : menuOk g m with
  | false =>
    have HM := hide hM
    have HR := hide (ap_no (xs := xs) hM)
    clear hM
    go_enter Tryd.func46, Tryd.ntmps46
    go_wp2_with fail
    refine (specMenuValid_any _ _ _ _ _ hA hl).mono ?_
    rintro e w1 ⟨rfl, hB1⟩
    rw [HM.out]
    go_wp2_with fail
    go_ret
    exact ⟨by rw [HR.out]; rfl, hB1⟩
  | true =>
    have HM := hide hM
    have hg0 := (menuOk_g hM).1
    have hg1 := (menuOk_g hM).2
    have h6 := menuOk_len hM
    have HX : Hid (∀ x ∈ m, 0 ≤ x ∧ x < 64) := hide (fun x hx => ⟨(menuOk_at hM hx).1, (menuOk_at hM hx).2.2⟩)
    have HR : Hid (apartL g m xs = allN xs.length (rowApart g m xs)) := hide (by unfold apartL; rw [hM]; rfl)
    have hwg : IntKind.i64.wrap (g - 1) = g - 1 := IntWalk.i64_in _ (by omega)
    clear hM
    go_enter Tryd.func46, Tryd.ntmps46
    go_wp2_with fail
    refine (specMenuValid_any _ _ _ _ _ hA hl).mono ?_
    rintro e w1 ⟨rfl, hB1⟩
    rw [HM.out]
    have hsz1 := hB1.size
    go_wp2_with fail
    go_loopw [7] (fun i wr => ∃ (k : Nat), k ≤ xs.length ∧ i = .int .i64 k ∧ Hid (∀ i, i < k → rowApart g m xs i = true) ∧ Below w.heap.size w wr) (fun i _ => xs.length - (intOf i).toNat)
    case atStart => exact ⟨0, Nat.zero_le _, rfl, hide (fun i hi => by omega), hB1⟩
    case round =>
      obtain ⟨k, hk, rfl, HG, hb⟩ := hrel
      have hsz := hb.size
      by_cases hlt : k < xs.length
      · obtain ⟨b, off, rfl, hbl, hc1⟩ := (hB.below hb) k xs[k] (List.getElem?_eq_getElem hlt)
        have HP : Hid (xs.getD k 0 = xs[k]) := hide (by simp [hlt])
        have HPE : Hid (xs[k]? = some xs[k]) := hide (List.getElem?_eq_getElem hlt)
        generalize xs[k] = p at *
        have hz : (0 : Int) ≤ k := by omega
        have hz2 : (k : Int) < xs.length := by omega
        cases h1 : inR p 0 (g - 1) with
        | false =>
          have H1 := hide h1
          have H3 : Hid (apartL g m xs = false) := hide (apart_false hlt (by unfold rowApart; rw [HP.out, h1]; rfl))
          clear h1
          go_wp2_with fail
          go_quiet ((go_at_call 40; exact Calls.quiet_of_same (l1In_is _ _ _ _ H1 _)))
          go_wp2_with fail
          go_ret
          exact ⟨by rw [H3.out]; rfl, below_drewN hb _⟩
        | true =>
          have H1 := hide h1
          obtain ⟨hp0, hp1⟩ := inR_iff.1 h1
          -- the rest of a round, once the numbers ascend
          have HROW : (decide (k = 0) || decide (xs.getD (k - 1) 0 < xs.getD k 0)) = true → Hid (rowApart g m xs k = allN k (fun b => !eatsBoth m p.toNat (xs.getD b 0).toNat)) := fun h => hide (by unfold rowApart; rw [h, HP.out, h1]; rfl)
          by_cases h0 : 0 < k
          · obtain ⟨i, rfl⟩ : ∃ i, k = i + 1 := ⟨k - 1, by omega⟩
            have hi : i < xs.length := by omega
            obtain ⟨b', off', hA', -, hd1⟩ := (hB.below hb) i (xs[i]'hi) (List.getElem?_eq_getElem hi)
            injection hA' with hA'
            injection hA' with hA1 hA2
            subst hA1 hA2
            have HQ : Hid (xs.getD i 0 = (xs[i]'hi)) := hide (by simp [hi])
            generalize (xs[i]'hi) = q at *
            by_cases hlt2 : q < p
            · have HROW2 := HROW (by rw [show i + 1 - 1 = i from rfl, HQ.out, HP.out, decide_eq_true hlt2]; simp)
              clear h1 HROW
              go_wp2_with fail
              go_quiet ((go_at_call 40; exact Calls.quiet_of_same (l1In_is _ _ _ _ H1 _)))
              go_wp2_with fail
              have hb3 := below_drewN hb nq
              have hsz3 := hb3.size
              have hp6 : p < 6 := by omega
              clear hc1 hd1
              go_loopw [8] (fun bv wr => ∃ b : Nat, b ≤ i + 1 ∧ bv = .int .i64 b ∧ Hid (∀ j, j < b → eatsBoth m p.toNat (xs.getD j 0).toNat = false) ∧ Below w.heap.size w wr) (fun bv _ => i + 1 - (intOf bv).toNat)
              case atStart => exact ⟨0, Nat.zero_le _, rfl, hide (fun j hj => by omega), hb3⟩
              case round =>
                obtain ⟨t, ht, rfl, HT, hb4⟩ := hrel
                have hsz4 := hb4.size
                by_cases htl : t < i + 1
                · have hty : t < xs.length := by omega
                  have HYE : Hid (xs[t]? = some xs[t]) := hide (List.getElem?_eq_getElem hty)
                  have HYD : Hid (xs.getD t 0 = xs[t]) := hide (by simp [hty])
                  have hyr := row_range (HG.out t htl)
                  rw [HYD.out] at hyr
                  generalize xs[t] = y at *
                  have hy0 : 0 ≤ y := hyr.1
                  have hy6 : y < 6 := by omega
                  clear hyr
                  have ht0 : (0 : Int) ≤ t := by omega
                  have ht1 : (t : Int) < i + 1 := by omega
                  have ht2 : (t : Int) < xs.length := by omega
                  go_wp2_with fail
                  go_loopw [9] (fun ev wr => ∃ j : Nat, j ≤ m.length ∧ ev = .int .i64 j ∧ Hid (eatsBoth m p.toNat y.toNat = eatsBoth (m.drop j) p.toNat y.toNat) ∧ Below w.heap.size w wr) (fun ev _ => m.length - (intOf ev).toNat)
                  case atStart => exact ⟨0, Nat.zero_le _, rfl, hide rfl, hb4⟩
                  case round =>
                    obtain ⟨j, hj, rfl, HJ, hb5⟩ := hrel
                    have hsz5 := hb5.size
                    by_cases hjl : j < m.length
                    · obtain ⟨b2, off2, rfl, hbl2, hm1⟩ := (hA.below hb5) j m[j] (List.getElem?_eq_getElem hjl)
                      have HE : Hid (m.drop j = m[j] :: m.drop (j + 1)) := hide (List.drop_eq_getElem_cons hjl)
                      have hx := HX.out m[j] (List.getElem_mem hjl)
                      generalize m[j] = e at *
                      have hcp := (hB.below hb5).cellOf HPE.out
                      have hcy := (hB.below hb5).cellOf HYE.out
                      have hd1 := div_range e p.toNat hx.1 hx.2
                      have hd2 := div_range e y.toNat hx.1 hx.2
                      clear hx
                      have hj0 : (0 : Int) ≤ j := by omega
                      have hj1 : (j : Int) < m.length := by omega
                      cases hh1 : hasB e p.toNat with
                      | false =>
                        have hf1 : (e / 2 ^ p.toNat % 2 == 1) = false := hh1
                        have H3 : Hid (eatsBoth m p.toNat y.toNat = eatsBoth (m.drop (j + 1)) p.toNat y.toNat) := hide (by rw [HJ.out, HE.out, eatsBoth_cons, hh1]; rfl)
                        clear hh1
                        go_wp2_with fail
                        go_quiet (fail)
                        go_wp2_with fail
                        go_roundw
                        case rel => exact ⟨j + 1, hjl, by go_num, H3, below_drewN hb5 _⟩
                        case measure => simp [intOf]; omega
                      | true =>
                        have hf1 : (e / 2 ^ p.toNat % 2 == 1) = true := hh1
                        cases hh2 : hasB e y.toNat with
                        | false =>
                          have hf2 : (e / 2 ^ y.toNat % 2 == 1) = false := hh2
                          have H3 : Hid (eatsBoth m p.toNat y.toNat = eatsBoth (m.drop (j + 1)) p.toNat y.toNat) := hide (by rw [HJ.out, HE.out, eatsBoth_cons, hh1, hh2]; rfl)
                          clear hh1 hh2
                          go_wp2_with fail
                          go_quiet (fail)
                          go_wp2_with fail
                          go_roundw
                          case rel => exact ⟨j + 1, hjl, by go_num, H3, below_drewN hb5 _⟩
                          case measure => simp [intOf]; omega
                        | true =>
                          have hf2 : (e / 2 ^ y.toNat % 2 == 1) = true := hh2
                          have H3 : Hid (apartL g m xs = false) := hide (apart_false hlt (by
                            rw [HROW2.out]
                            refine allN_false (i := t) htl ?_
                            rw [HYD.out, HJ.out, HE.out, eatsBoth_cons, hh1, hh2]
                            rfl))
                          clear hh1 hh2
                          go_wp2_with fail
                          go_quiet (fail)
                          go_wp2_with fail
                          go_ret
                          exact ⟨by rw [H3.out]; rfl, below_drewN hb5 _⟩
                    · have H3 : Hid (∀ j, j < t + 1 → eatsBoth m p.toNat (xs.getD j 0).toNat = false) := hide (fun j' hj' => by
                        by_cases e : j' = t
                        · subst e
                          rw [HYD.out, HJ.out, List.drop_of_length_le (by omega), eatsBoth_nil]
                        · exact HT.out j' (by omega))
                      go_wp2_with fail
                      go_roundw
                      case rel => exact ⟨t + 1, htl, by go_num, H3, hb5⟩
                      case measure => simp [intOf]; omega
                · have H3 : Hid (∀ j, j < i + 1 + 1 → rowApart g m xs j = true) := hide (fun j hj => by
                    by_cases e : j = i + 1
                    · subst e
                      rw [HROW2.out, allN_iff]
                      intro b hb
                      rw [HT.out b (by omega)]
                      rfl
                    · exact HG.out j (by omega))
                  go_wp2_with fail
                  go_roundw
                  case rel => exact ⟨i + 1 + 1, hlt, by go_num, H3, hb4⟩
                  case measure => simp [intOf]; omega
            · have H3 : Hid (apartL g m xs = false) := hide (apart_false hlt (by
                unfold rowApart
                rw [show i + 1 - 1 = i from rfl, HQ.out, HP.out, decide_eq_false hlt2, decide_eq_false (by omega : ¬ i + 1 = 0)]
                simp))
              clear h1 HROW
              go_wp2_with fail
              go_quiet ((go_at_call 40; exact Calls.quiet_of_same (l1In_is _ _ _ _ H1 _)))
              go_wp2_with fail
              go_ret
              exact ⟨by rw [H3.out]; rfl, below_drewN hb _⟩
          · have h0' : ¬ (0 : Int) < k := by omega
            have HROW2 := HROW (by rw [decide_eq_true (by omega : k = 0)]; rfl)
            clear h1 HROW
            go_wp2_with fail
            go_quiet ((go_at_call 40; exact Calls.quiet_of_same (l1In_is _ _ _ _ H1 _)))
            go_wp2_with fail
            have hb3 := below_drewN hb nq
            have hsz3 := hb3.size
            obtain rfl : k = 0 := by omega
            clear hc1
            go_loopw [8] (fun bv wr => bv = .int .i64 0 ∧ Below w.heap.size w wr) (fun _ _ => 0)
            case atStart => exact ⟨rfl, hb3⟩
            case round =>
              obtain ⟨rfl, hb4⟩ := hrel
              have hsz4 := hb4.size
              have H3 : Hid (∀ j, j < 0 + 1 → rowApart g m xs j = true) := hide (fun j hj => by
                obtain rfl : j = 0 := by omega
                rw [HROW2.out, allN_iff]
                intro b hb
                omega)
              go_wp2_with fail
              go_roundw
              case rel => exact ⟨0 + 1, hlt, by go_num, H3, hb4⟩
              case measure => simp [intOf]; omega
      · have H3 : Hid (apartL g m xs = true) := hide (by rw [HR.out, allN_iff]; intro i hi; exact HG.out i (by omega))
        go_wp2_with fail
        go_ret
        exact ⟨by rw [H3.out]; rfl, hb⟩
end Go.Proofs.YthbainbgimbjeaaDoor

namespace Go.Proofs.YthbainbgimbjeaaDoor
open Go.RowKit Go.ChangeShapes Go.WideShapes Go.ChangeAt Go.Deep

theorem quar_no1 {g : Int} {q : List Int} (h : inR g 0 6 = false) : quarOk g q = false := by unfold quarOk; rw [h]; rfl
theorem quar_no2 {g : Int} {q : List Int} (h : (decide ((q.length : Int) = g) && rangeOk (full g) q) = false) : quarOk g q = false := by unfold quarOk; rw [h]; simp
theorem quar_bad {g : Int} {q : List Int} {a b : Nat} (ha : a < q.length) (hb : b < q.length) (h : quarBad q a b = true) : quarOk g q = false := by
  have : allN q.length (quarFine q) = false := allN_false ha (by unfold quarFine; exact allN_false hb (by rw [h]; rfl))
  unfold quarOk
  rw [this]
  simp
theorem bits_ne (x y : Int) (a b : Nat) : (x / 2 ^ a % 2 != y / 2 ^ b % 2) = !(hasB x a == hasB y b) := by
  unfold hasB bne
  rcases Int.emod_two_eq (x / 2 ^ a) with h1 | h1 <;> rcases Int.emod_two_eq (y / 2 ^ b) with h2 | h2 <;> rw [h1, h2] <;> rfl

set_option maxRecDepth 100000 in
set_option maxHeartbeats 4000000 in
theorem specQuarrelsValid_q (g : Int) (A : Option Addr) (c : Nat) (q : List Int) (w : World) (hA : IntsAt w A q) (hl : q.length ≤ 1048576) :
    Calls Tryd.prog 71 #[.int .i64 g, .slice A q.length c] w fun e w' => e = .returned (.bool (quarOk g q)) ∧ ∃ n, w' = w.drewN n := by
  cases hg : inR g 0 6 with
  | false =>
    have HG := hide hg
    have HR := hide (quar_no1 (q := q) hg)
    clear hg
    go_enter Tryd.func71, Tryd.ntmps71
    go_wp2_with fail
    refine (l1In_w _ _ _ _ HG _).mono ?_
    rintro e w' ⟨rfl, rfl⟩
    go_wp2_with fail
    go_ret
    exact ⟨by rw [HR.out]; rfl, 0, rfl⟩
  | true =>
    have HG := hide hg
    by_cases hlg : (q.length : Int) = g
    · subst hlg
      have h6 : q.length ≤ 6 := by have := (inR_iff.1 hg).2; omega
      have HR := hide (quarOk_rows hg rfl)
      have hp := pow_range6 q.length h6
      have hw1 : IntKind.i64.wrap (2 ^ q.length) = 2 ^ q.length := IntWalk.i64_in _ (by omega)
      have hw2 : IntKind.i64.wrap (2 ^ q.length - 1) = full q.length := by rw [full_nat]; exact IntWalk.i64_in _ (by omega)
      have hne : ((q.length : Int) != q.length) = false := by simp
      have HF := hide (full_range (g := q.length) (by omega) (by omega))
      clear hg
      have HNO : Hid (∀ k, k < q.length → quarRow q.length q k = false → quarOk q.length q = false) := hide (fun k hk h => by rw [HR.out]; exact allN_false hk h)
      go_enter Tryd.func71, Tryd.ntmps71
      go_wp2_with fail
      refine (l1In_w _ _ _ _ HG _).mono ?_
      rintro e w' ⟨rfl, rfl⟩
      go_wp2_with fail
      go_loopw [5] (fun i wr => ∃ (k n : Nat), k ≤ q.length ∧ i = .int .i64 k ∧ Hid (∀ i, i < k → quarRow q.length q i = true) ∧ Hid (wr = w.drewN n)) (fun i _ => q.length - (intOf i).toNat)
      case atStart => exact ⟨0, 0, Nat.zero_le _, rfl, hide (fun i hi => by omega), hide rfl⟩
      case round =>
        obtain ⟨k, n, hk, rfl, HS, HW⟩ := hrel
        have hb : Below w.heap.size w wr := by rw [HW.out]; exact below_drewN (Below.refl _ _) n
        have hsz := hb.size
        by_cases hlt : k < q.length
        · obtain ⟨b, off, rfl, hbl, hc1⟩ := (hA.below hb) k q[k] (List.getElem?_eq_getElem hlt)
          have HP : Hid (q.getD k 0 = q[k]) := hide (by simp [hlt])
          have HPE : Hid (q[k]? = some q[k]) := hide (List.getElem?_eq_getElem hlt)
          generalize q[k] = s at *
          have hz : (0 : Int) ≤ k := by omega
          have hz2 : (k : Int) < q.length := by omega
          cases h1 : inR s 0 (full q.length) with
          | false =>
            have H1 := hide h1
            have H3 := hide (HNO.out k hlt (by unfold quarRow; rw [HP.out, h1]; rfl))
            clear h1
            go_wp2_with fail
            go_quiet ((go_at_call 40; exact Calls.quiet_of_same (l1In_is _ _ _ _ H1 _)))
            go_wp2_with fail
            go_ret
            exact ⟨by rw [H3.out]; rfl, _, by rw [HW.out, World.drewN_drewN]⟩
          | true =>
            have H1 := hide h1
            have hs01 := inR_iff.1 h1
            have hs0 := hs01.1
            have hs1 : s < 64 := by have := HF.out; omega
            clear hs01
            have hd1 := div_range s k hs0 hs1
            cases hself : hasB s k with
            | true =>
              have hf1 : (s / 2 ^ k % 2 == 1) = true := hself
              have H3 := hide (HNO.out k hlt (by unfold quarRow; rw [HP.out, hself]; simp))
              clear h1 hself
              go_wp2_with fail
              go_quiet ((go_at_call 40; exact Calls.quiet_of_same (l1In_is _ _ _ _ H1 _)))
              go_wp2_with fail
              go_ret
              exact ⟨by rw [H3.out]; rfl, _, by rw [HW.out, World.drewN_drewN]⟩
            | false =>
              have hf1 : (s / 2 ^ k % 2 == 1) = false := hself
              have HROW : Hid (quarRow q.length q k = allN k (fun b => inR (q.getD b 0) 0 (full q.length) && (hasB s b == hasB (q.getD b 0) k))) := hide (by unfold quarRow; rw [HP.out, h1, hself]; rfl)
              clear h1 hself
              go_wp2_with fail
              go_quiet ((go_at_call 40; exact Calls.quiet_of_same (l1In_is _ _ _ _ H1 _)))
              go_wp2_with fail
              clear hc1 hf1 hd1
              have HW3 : Hid (wr.drewN nq = w.drewN (n + nq)) := hide (by rw [HW.out, World.drewN_drewN])
              go_loopw [6] (fun j wr => ∃ (t n : Nat), t ≤ k ∧ j = .int .i64 t ∧ Hid (∀ b, b < t → (hasB s b == hasB (q.getD b 0) k) = true) ∧ Hid (wr = w.drewN n)) (fun j _ => k - (intOf j).toNat)
              case atStart => exact ⟨0, _, Nat.zero_le _, rfl, hide (fun i hi => by omega), HW3⟩
              case round =>
                obtain ⟨t, n2, ht, rfl, HT, HW2⟩ := hrel
                have hb2 : Below w.heap.size w wr := by rw [HW2.out]; exact below_drewN (Below.refl _ _) n2
                have hsz2 := hb2.size
                by_cases htl : t < k
                · have htq : t < q.length := by omega
                  have HYE : Hid (q[t]? = some q[t]) := hide (List.getElem?_eq_getElem htq)
                  have HYD : Hid (q.getD t 0 = q[t]) := hide (by simp [htq])
                  have hyr := HS.out t htl
                  unfold quarRow at hyr
                  rw [Bool.and_eq_true, Bool.and_eq_true, HYD.out] at hyr
                  generalize q[t] = y at *
                  have H2 := hide hyr.1.1
                  have hy01 := inR_iff.1 hyr.1.1
                  have hy0 := hy01.1
                  have hy1 : y < 64 := by have := HF.out; omega
                  clear hyr hy01
                  have hcs := (hA.below hb2).cellOf HPE.out
                  have hcy := (hA.below hb2).cellOf HYE.out
                  have hd1 := div_range s t hs0 hs1
                  have hd2 := div_range y k hy0 hy1
                  have ht0 : (0 : Int) ≤ t := by omega
                  have ht1 : (t : Int) < k := by omega
                  have ht2 : (t : Int) < q.length := by omega
                  have hbn := bits_ne s y t k
                  cases hh : (hasB s t == hasB y k) with
                  | true =>
                    have hf2 : (s / 2 ^ t % 2 != y / 2 ^ k % 2) = false := by rw [hbn, hh]; rfl
                    have H3 : Hid (∀ b, b < t + 1 → (hasB s b == hasB (q.getD b 0) k) = true) := hide (fun b hb => by
                      by_cases e : b = t
                      · subst e; rw [HYD.out]; exact hh
                      · exact HT.out b (by omega))
                    clear hh hbn
                    go_wp2_with fail
                    go_quiet ((go_at_call 40; exact Calls.quiet_of_same (l1In_is _ _ _ _ H2 _)))
                    go_wp2_with fail
                    go_roundw
                    case rel => exact ⟨t + 1, _, htl, by go_num, H3, hide (by rw [HW2.out, World.drewN_drewN])⟩
                    case measure => simp [intOf]; omega
                  | false =>
                    have hf2 : (s / 2 ^ t % 2 != y / 2 ^ k % 2) = true := by rw [hbn, hh]; rfl
                    have H3 := hide (HNO.out k hlt (by rw [HROW.out]; exact allN_false htl (by rw [HYD.out, hh]; simp)))
                    clear hh hbn
                    go_wp2_with fail
                    go_quiet ((go_at_call 40; exact Calls.quiet_of_same (l1In_is _ _ _ _ H2 _)))
                    go_wp2_with fail
                    go_ret
                    exact ⟨by rw [H3.out]; rfl, _, by rw [HW2.out, World.drewN_drewN]⟩
                · have H3 : Hid (∀ i, i < k + 1 → quarRow q.length q i = true) := hide (fun i hi => by
                    by_cases e : i = k
                    · subst e
                      rw [HROW.out, allN_iff]
                      intro b hb
                      have := HS.out b (by omega)
                      unfold quarRow at this
                      rw [Bool.and_eq_true, Bool.and_eq_true] at this
                      rw [HT.out b (by omega), this.1.1]
                      rfl
                    · exact HS.out i (by omega))
                  go_wp2_with fail
                  go_roundw
                  case rel => exact ⟨k + 1, _, hlt, by go_num, H3, HW2⟩
                  case measure => simp [intOf]; omega
        · have H3 : Hid (quarOk q.length q = true) := hide (by rw [HR.out, allN_iff]; intro i hi; exact HS.out i (by omega))
          go_wp2_with fail
          go_ret
          exact ⟨by rw [H3.out]; rfl, n, HW.out⟩
    · have HR := hide (quar_no2 (g := g) (q := q) (by rw [decide_eq_false hlg]; rfl))
      have hne : ((q.length : Int) != g) = true := by simp [hlg]
      clear hlg hg
      go_enter Tryd.func71, Tryd.ntmps71
      go_wp2_with fail
      refine (l1In_w _ _ _ _ HG _).mono ?_
      rintro e w' ⟨rfl, rfl⟩
      go_wp2_with fail
      go_ret
      exact ⟨by rw [HR.out]; rfl, 0, rfl⟩
theorem specQuarrelsValid_any (g : Int) (A : Option Addr) (c : Nat) (q : List Int) (w : World) (hA : IntsAt w A q) (hl : q.length ≤ 1048576) :
    Calls Tryd.prog 71 #[.int .i64 g, .slice A q.length c] w fun e w' => e = .returned (.bool (quarOk g q)) ∧ Below w.heap.size w w' :=
  (specQuarrelsValid_q g A c q w hA hl).mono fun _ _ h => ⟨h.1, below_of_drew h.2⟩
end Go.Proofs.YthbainbgimbjeaaDoor
