/- Bills: valid shares, tips, valid debts; contracts of the program and of the reference model.
   Conditions: lists have at most 1048576 elements. -/
import Derived.Test.YtpcnmfphkeobmaaSums
namespace Go.Proofs.Ytpcnmfphkeobmaa
open Go.RowKit

def sharesOk (xs : List Int) : Bool := rangeOk 20 xs && (inR (xs.length : Int) 1 7 && decide (0 < sumW xs))
def tipL (s p : Int) : Int := if (inR s 0 9999 && inR p 0 100) = true then Int.tdiv (s * p + 99) 100 else -1
def owedIn (xs : List Int) : Bool := xs.all (fun x => inR x (-9999) 9999)
def owedOk (xs : List Int) : Bool := owedIn xs && (decide (xs.length ≤ 7) && (sumW xs == 0))

theorem sumW_nil : sumW [] = 0 := rfl

theorem sharesOk_len {xs : List Int} (h : sharesOk xs = true) : 1 ≤ xs.length ∧ xs.length ≤ 7 := by
  unfold sharesOk at h
  simp only [Bool.and_eq_true, inR_iff] at h
  omega

theorem sharesOk_range {xs : List Int} (h : sharesOk xs = true) : rangeOk 20 xs = true := by
  unfold sharesOk at h
  simp only [Bool.and_eq_true] at h
  exact h.1

theorem owedOk_len {xs : List Int} (h : owedOk xs = true) : xs.length ≤ 7 := by
  unfold owedOk at h
  simp only [Bool.and_eq_true, decide_eq_true_eq] at h
  omega

theorem owedOk_in {xs : List Int} (h : owedOk xs = true) : owedIn xs = true := by
  unfold owedOk at h
  simp only [Bool.and_eq_true] at h
  exact h.1

theorem owedIn_at {xs : List Int} (h : owedIn xs = true) {x : Int} (hx : x ∈ xs) : -9999 ≤ x ∧ x ≤ 9999 := by
  unfold owedIn at h
  exact inR_iff.1 (List.all_eq_true.1 h x hx)

set_option maxHeartbeats 400000 in
theorem implSharesValid_any (A : Option Addr) (c : Nat) (xs : List Int) (w : World) (hA : IntsAt w A xs) (hl : xs.length ≤ 1048576) :
    Calls Try.prog 7 #[.slice A xs.length c] w fun e w' => e = .returned (.bool (sharesOk xs)) ∧ Below w.heap.size w w' := by
  by_cases h7 : xs.length ≤ 7
  · have hd : decide ((xs.length : Int) ≤ 7) = true := decide_eq_true (by omega)
    cases hr : rangeOk 20 xs with
    | false =>
      have HR := hide hr
      have H3 : Hid (sharesOk xs = false) := hide (by unfold sharesOk; rw [hr]; rfl)
      clear hr
      go_enter Try.func7, Try.ntmps7
      go_wp2_with fail
      refine (allInRange_self _ _ _ _ _ hA hl).mono ?_
      rintro e w1 ⟨rfl, hB⟩
      rw [HR.out]
      go_wp2_with fail
      go_ret
      exact ⟨by rw [H3.out]; rfl, hB⟩
    | true =>
      have HR := hide hr
      have H3 : Hid (sharesOk xs = decide (0 < sumW xs)) := hide (by
        unfold sharesOk
        rw [hr, Bool.true_and]
        by_cases h1 : 1 ≤ xs.length
        · rw [show inR (xs.length : Int) 1 7 = true from inR_iff.2 (by omega), Bool.true_and]
        · have : xs = [] := List.eq_nil_of_length_eq_zero (by omega)
          subst this
          rfl)
      clear hr
      go_enter Try.func7, Try.ntmps7
      go_wp2_with fail
      refine (allInRange_self _ _ _ _ _ hA hl).mono ?_
      rintro e w1 ⟨rfl, hB⟩
      rw [HR.out]
      go_wp2_with fail
      refine (sumOf_any _ _ _ _ (hA.below hB) hl).mono ?_
      rintro e w2 ⟨rfl, rfl⟩
      go_wp2_with fail
      go_ret
      exact ⟨by rw [H3.out]; rfl, hB⟩
  · have hd : decide ((xs.length : Int) ≤ 7) = false := decide_eq_false (by omega)
    have H3 : Hid (sharesOk xs = false) := hide (by
      unfold sharesOk
      rw [show inR (xs.length : Int) 1 7 = false from (by
        cases h : inR (xs.length : Int) 1 7 with
        | false => rfl
        | true => have := inR_iff.1 h; omega)]
      simp)
    go_enter Try.func7, Try.ntmps7
    go_wp2_with fail
    go_ret
    exact ⟨by rw [H3.out]; rfl, by go_grown⟩

set_option maxHeartbeats 400000 in
theorem specSharesValid_any (A : Option Addr) (c : Nat) (xs : List Int) (w : World) (hA : IntsAt w A xs) (hl : xs.length ≤ 1048576) :
    Calls Try.prog 5 #[.slice A xs.length c] w fun e w' => e = .returned (.bool (sharesOk xs)) ∧ Below w.heap.size w w' := by
  go_enter Try.func5, Try.ntmps5
  go_wp2_with fail
  go_loopw [3] (fun i wr => ∃ k : Nat, k ≤ xs.length ∧ i = .int .i64 k ∧ Hid (rangeOk 20 xs = rangeOk 20 (xs.drop k)) ∧ Below w.heap.size w wr) (fun i _ => xs.length - (intOf i).toNat)
  case atStart => exact ⟨0, Nat.zero_le _, rfl, hide rfl, by go_grown⟩
  case round =>
    obtain ⟨k, hk, rfl, HG, hb⟩ := hrel
    have hsz := hb.size
    by_cases hlt : k < xs.length
    · obtain ⟨b, off, rfl, hbl, hc1⟩ := (hA.below hb) k xs[k] (List.getElem?_eq_getElem hlt)
      have HD : Hid (xs.drop k = xs[k] :: xs.drop (k + 1)) := hide (List.drop_eq_getElem_cons hlt)
      generalize xs[k] = p at *
      have hz : (0 : Int) ≤ k := by omega
      have hz2 : (k : Int) < xs.length := by omega
      cases hp : inR p 0 20 with
      | false =>
        have HQ := hide hp
        have H3 : Hid (sharesOk xs = false) := hide (by unfold sharesOk; rw [HG.out, HD.out]; unfold rangeOk; rw [List.all_cons, hp]; rfl)
        clear hp
        go_wp2_with fail
        refine (l1In_is _ _ _ _ HQ _).mono ?_
        rintro e w' ⟨rfl, rfl⟩
        go_wp2_with fail
        go_ret
        exact ⟨by rw [H3.out]; rfl, hb⟩
      | true =>
        have HQ := hide hp
        have H3 : Hid (rangeOk 20 xs = rangeOk 20 (xs.drop (k + 1))) := hide (by rw [HG.out, HD.out]; unfold rangeOk; rw [List.all_cons, hp]; rfl)
        clear hp
        go_wp2_with fail
        refine (l1In_is _ _ _ _ HQ _).mono ?_
        rintro e w' ⟨rfl, rfl⟩
        go_wp2_with fail
        go_roundw
        case rel => exact ⟨k + 1, hlt, by go_num, H3, hb⟩
        case measure => simp [intOf]; omega
    · have HT : Hid (rangeOk 20 xs = true) := hide (by rw [HG.out, List.drop_of_length_le (by omega)]; rfl)
      cases hp : inR (xs.length : Int) 1 7 with
      | false =>
        have HQ := hide hp
        have H3 : Hid (sharesOk xs = false) := hide (by unfold sharesOk; rw [hp]; simp)
        clear hp
        go_wp2_with fail
        refine (l1In_is _ _ _ _ HQ _).mono ?_
        rintro e w' ⟨rfl, rfl⟩
        go_wp2_with fail
        go_ret
        exact ⟨by rw [H3.out]; rfl, hb⟩
      | true =>
        have HQ := hide hp
        have H3 : Hid (sharesOk xs = decide (0 < sumW xs)) := hide (by unfold sharesOk; rw [hp, HT.out]; rfl)
        clear hp
        go_wp2_with fail
        refine (l1In_is _ _ _ _ HQ _).mono ?_
        rintro e w' ⟨rfl, rfl⟩
        go_wp2_with fail
        refine (l1Sum_any _ _ _ _ (hA.below hb) hl).mono ?_
        rintro e w2 ⟨rfl, rfl⟩
        go_wp2_with fail
        go_ret
        exact ⟨by rw [H3.out]; rfl, hb⟩

theorem tip_range {s p : Int} (h0 : 0 ≤ s) (h1 : s ≤ 9999) (h2 : 0 ≤ p) (h3 : p ≤ 100) : 0 ≤ s * p ∧ s * p ≤ 999900 := by
  refine ⟨Int.mul_nonneg h0 h2, ?_⟩
  have := Int.mul_le_mul h1 h3 h2 (by omega)
  omega

end Go.Proofs.Ytpcnmfphkeobmaa
