/- Guests2: who is fed, whether all are, how many dishes; contracts of the program and of the reference model.
   Conditions: lists have at most 1048576 elements. -/
import Derived.Test.YthbainbgimbjeaaGuests1
import Derived.Test.YthbainbgimbjeaaGuestPop
namespace Go.Proofs.Ythbainbgimbjeaa
open Go.RowKit

def nil1 : List Int := []

theorem fed_no1 {g d : Int} {m : List Int} (h : menuOk g m = false) : fedL g m d = -1 := by unfold fedL; rw [h]; rfl
theorem fed_no2 {g d : Int} {m : List Int} (h : inR d 0 (full m.length) = false) : fedL g m d = -1 := by unfold fedL; rw [h]; simp
theorem fed_yes {g d : Int} {m : List Int} (h : menuOk g m = true) (h2 : inR d 0 (full m.length) = true) : fedL g m d = fedGo d 0 m 0 := by unfold fedL; rw [h, h2]; rfl
theorem fed_range {g d : Int} {m : List Int} (h : menuOk g m = true) : 0 ≤ fedGo d 0 m 0 ∧ fedGo d 0 m 0 < 64 :=
  fedGo_range m 0 0 (fun x hx => ⟨(menuOk_at h hx).1, (menuOk_at h hx).2.2⟩) (by omega) (by omega)
theorem full_nat (n : Nat) : full (n : Int) = 2 ^ n - 1 := by unfold full; rw [Int.toNat_natCast]

set_option maxHeartbeats 800000 in
theorem l6Fed_any (A : Option Addr) (c : Nat) (m : List Int) (d : Int) (w : World) (hA : IntsAt w A m) (hl : m.length ≤ 6) (HX : Hid (∀ x ∈ m, 0 ≤ x ∧ x < 64)) (hd0 : 0 ≤ d) (hd1 : d < 64) :
    Calls Try.prog 21 #[.slice A m.length c, .int .i64 d] w fun e w' => e = .returned (.int .i64 (fedGo d 0 m 0)) ∧ w = w' := by
  go_enter Try.func21, Try.ntmps21
  go_wp2_with fail
  go_loopw [5, 6] (fun sv i wr => ∃ (k : Nat) (s : Int), k ≤ m.length ∧ i = .int .i64 k ∧ sv = .int .i64 s ∧ 0 ≤ s ∧ s < 64 ∧ Hid (fedGo d 0 m 0 = fedGo d k (m.drop k) s) ∧ w = wr) (fun _ i _ => m.length - (intOf i).toNat)
  case atStart => exact ⟨0, 0, Nat.zero_le _, rfl, rfl, by omega, by omega, hide rfl, rfl⟩
  case round =>
    obtain ⟨k, s, hk, rfl, rfl, hs0, hs1, HG, rfl⟩ := hrel
    by_cases hlt : k < m.length
    · obtain ⟨b, off, rfl, hbl, hc1⟩ := hA k m[k] (List.getElem?_eq_getElem hlt)
      have HE : Hid (m.drop k = m[k] :: m.drop (k + 1)) := hide (List.drop_eq_getElem_cons hlt)
      have hx := HX.out m[k] (List.getElem_mem hlt)
      generalize m[k] = p at *
      have hx0 : 0 ≤ p := hx.1
      have hx1 : p < 64 := hx.2
      clear hx
      have hz : (0 : Int) ≤ k := by omega
      have hz2 : (k : Int) < m.length := by omega
      have hq := div_range d k hd0 hd1
      cases hh : hasB d k with
      | false =>
        have hf : (d / 2 ^ k % 2 == 1) = false := hh
        have H3 : Hid (fedGo d 0 m 0 = fedGo d (k + 1) (m.drop (k + 1)) s) := hide (by rw [HG.out, HE.out, fedGo, hh]; rfl)
        clear hh
        go_wp2_with fail
        go_roundw
        case rel => exact ⟨k + 1, s, hlt, by go_num, rfl, hs0, hs1, H3, trivial⟩
        case measure => simp [intOf]; omega
      | true =>
        have hf : (d / 2 ^ k % 2 == 1) = true := hh
        have H3 : Hid (fedGo d 0 m 0 = fedGo d (k + 1) (m.drop (k + 1)) (orI s p)) := hide (by rw [HG.out, HE.out, fedGo, hh]; rfl)
        have ho := orI_lt hs1 hx1
        clear hh
        go_wp2_with fail
        refine (l1Join_w _ _ _ hs0 hs1 hx0 hx1).mono ?_
        rintro e w3 ⟨rfl, rfl⟩
        go_wp2_with fail
        go_roundw
        case rel => exact ⟨k + 1, orI s p, hlt, by go_num, rfl, ho.1, ho.2, H3, trivial⟩
        case measure => simp [intOf]; omega
    · have HE : Hid (fedGo d 0 m 0 = s) := hide (by rw [HG.out, List.drop_of_length_le (by omega)]; rfl)
      go_wp2_with fail
      go_ret
      exact ⟨by rw [HE.out]; rfl, rfl⟩

set_option maxHeartbeats 800000 in
theorem specFedBy_q (g : Int) (A : Option Addr) (c : Nat) (m : List Int) (d : Int) (w : World) (hA : IntsAt w A m) (hl : m.length ≤ 1048576) :
    Calls Try.prog 15 #[.int .i64 g, .slice A m.length c, .int .i64 d] w fun e w' => e = .returned (.int .i64 (fedL g m d)) ∧ ∃ n, w' = w.drewN n := by
  cases hM : menuOk g m with
  | false =>
    have HM := hide hM
    have HR := hide (fed_no1 (d := d) hM)
    clear hM
    go_enter Try.func15, Try.ntmps15
    go_wp2_with fail
    refine (specMenuValid_q _ _ _ _ _ hA hl).mono ?_
    rintro e w1 ⟨rfl, hn1⟩
    have HW := hide hn1
    have hB := below_of_drew hn1
    clear hn1
    rw [HM.out]
    go_wp2_with fail
    go_ret
    exact ⟨by rw [HR.out]; rfl, HW.out⟩
  | true =>
    have HM := hide hM
    have h6 := menuOk_len hM
    have HX : Hid (∀ x ∈ m, 0 ≤ x ∧ x < 64) := hide (fun x hx => ⟨(menuOk_at hM hx).1, (menuOk_at hM hx).2.2⟩)
    have hp := pow_range6 m.length h6
    have HF := hide (full_nat m.length)
    cases hD : inR d 0 (full m.length) with
    | false =>
      have HD := hide hD
      have HR := hide (fed_no2 (g := g) hD)
      rw [HF.out] at HD
      clear hM hD
      go_enter Try.func15, Try.ntmps15
      go_wp2_with fail
      refine (specMenuValid_q _ _ _ _ _ hA hl).mono ?_
      rintro e w1 ⟨rfl, hn1⟩
      have HW := hide hn1
      have hB := below_of_drew hn1
      clear hn1
      rw [HM.out]
      go_wp2_with fail
      refine (l1In_w _ _ _ _ HD _).mono ?_
      rintro e w2 ⟨rfl, rfl⟩
      go_wp2_with fail
      go_ret
      exact ⟨by rw [HR.out]; rfl, HW.out⟩
    | true =>
      have HD := hide hD
      have HR := hide (fed_yes hM hD)
      have hd := inR_iff.1 hD
      have hd0 := hd.1
      have hd1 : d < 64 := by have := full_range (g := m.length) (by omega) (by omega); omega
      rw [HF.out] at HD
      clear hM hD hd
      go_enter Try.func15, Try.ntmps15
      go_wp2_with fail
      refine (specMenuValid_q _ _ _ _ _ hA hl).mono ?_
      rintro e w1 ⟨rfl, hn1⟩
      have HW := hide hn1
      have hB := below_of_drew hn1
      clear hn1
      rw [HM.out]
      go_wp2_with fail
      refine (l1In_w _ _ _ _ HD _).mono ?_
      rintro e w2 ⟨rfl, rfl⟩
      clear hp
      go_wp2_with fail
      refine (l6Fed_any _ _ _ _ _ (hA.below hB) h6 HX hd0 hd1).mono ?_
      rintro e w3 ⟨rfl, rfl⟩
      go_wp2_with fail
      go_ret
      exact ⟨by rw [HR.out]; rfl, HW.out⟩

theorem specFedBy_any (g : Int) (A : Option Addr) (c : Nat) (m : List Int) (d : Int) (w : World) (hA : IntsAt w A m) (hl : m.length ≤ 1048576) :
    Calls Try.prog 15 #[.int .i64 g, .slice A m.length c, .int .i64 d] w fun e w' => e = .returned (.int .i64 (fedL g m d)) ∧ Below w.heap.size w w' :=
  (specFedBy_q g A c m d w hA hl).mono fun _ _ h => ⟨h.1, below_of_drew h.2⟩

theorem feeds_no {g d : Int} {m : List Int} (h : decide (0 ≤ fedL g m d) = false) : feedsL g m d = false := by unfold feedsL; rw [h]; rfl
theorem fedL_of {g d : Int} {m : List Int} (h : 0 ≤ fedL g m d) : menuOk g m = true := by
  unfold fedL at h
  split at h
  · rename_i h2
    rw [Bool.and_eq_true] at h2
    exact h2.1
  · omega

set_option maxHeartbeats 800000 in
theorem specFeedsAll_q (g : Int) (A : Option Addr) (c : Nat) (m : List Int) (d : Int) (w : World) (hA : IntsAt w A m) (hl : m.length ≤ 1048576) :
    Calls Try.prog 9 #[.int .i64 g, .slice A m.length c, .int .i64 d] w fun e w' => e = .returned (.bool (feedsL g m d)) ∧ ∃ n, w' = w.drewN n := by
  cases hP : decide (0 ≤ fedL g m d) with
  | false =>
    have HR := hide (feeds_no hP)
    have HC := hide (fun N => specFedBy_q g A c m d (w.drewN N) (hA.below (below_drewN (Below.refl _ _) N)) hl)
    generalize fedL g m d = f at *
    have hP2 : decide (f ≥ 0) = false := hP
    clear hA
    go_enter Try.func9, Try.ntmps9
    go_wp2_with fail
    go_quiet ((go_at_call 15; exact Calls.quiet_of (HC.out _)))
    go_wp2_with fail
    go_ret
    exact ⟨by rw [HR.out]; rfl, _, rfl⟩
  | true =>
    have hP0 : 0 ≤ fedL g m d := of_decide_eq_true hP
    have HR : Hid (feedsL g m d = (fedL g m d == full g)) := hide (by unfold feedsL; rw [hP]; rfl)
    have hM := fedL_of hP0
    have hg0 := (menuOk_g hM).1
    have hg1 := (menuOk_g hM).2
    have hp := pow_range6 g.toNat (by omega)
    have hw1 : IntKind.i64.wrap (2 ^ g.toNat) = 2 ^ g.toNat := IntWalk.i64_in _ (by omega)
    have hw2 : IntKind.i64.wrap (2 ^ g.toNat - 1) = full g := IntWalk.i64_in _ (by omega)
    have HC := hide (fun N => specFedBy_q g A c m d (w.drewN N) (hA.below (below_drewN (Below.refl _ _) N)) hl)
    clear hM hA
    generalize fedL g m d = f at *
    have hP2 : decide (f ≥ 0) = true := hP
    go_enter Try.func9, Try.ntmps9
    go_wp2_with fail
    go_quiet ((go_at_call 15; exact Calls.quiet_of (HC.out _)))
    go_wp2_with fail
    go_ret
    exact ⟨by rw [HR.out]; rfl, _, rfl⟩
theorem specFeedsAll_any (g : Int) (A : Option Addr) (c : Nat) (m : List Int) (d : Int) (w : World) (hA : IntsAt w A m) (hl : m.length ≤ 1048576) :
    Calls Try.prog 9 #[.int .i64 g, .slice A m.length c, .int .i64 d] w fun e w' => e = .returned (.bool (feedsL g m d)) ∧ Below w.heap.size w w' :=
  (specFeedsAll_q g A c m d w hA hl).mono fun _ _ h => ⟨h.1, below_of_drew h.2⟩

def manyL (d : Int) : Int := if d < 0 then -1 else sz d
theorem lit_bound {n : Int} (h : (Lit.int .i64 n).wf = true) : -9223372036854775808 ≤ n ∧ n ≤ 9223372036854775807 := by
  simp [Lit.wf, IntKind.min, IntKind.max, IntKind.signed, IntKind.bits] at h
  omega

end Go.Proofs.Ythbainbgimbjeaa
