/- Bills: valid shares, tips, valid debts; contracts of the program and of the reference model.
   Conditions: lists have at most 1048576 elements. -/
import Derived.Test.YteocmjffjinphaaDoorSums
namespace Go.Proofs.YteocmjffjinphaaDoor
open Go.RowKit

def sharesOk (xs : List Int) : Bool := rangeOk 20 xs && (inR (xs.length : Int) 1 7 && decide (0 < sumW xs))
def tipL (s p : Int) : Int := if (inR s 0 9999 && inR p 0 100) = true then Int.tdiv (s * p + 99) 100 else -1
def owedIn (xs : List Int) : Bool := xs.all (fun x => inR x (-9999) 9999)
def owedOk (xs : List Int) : Bool := owedIn xs && (decide (xs.length ≤ 7) && (sumW xs == 0))

theorem sumW_nil : sumW [] = 0 := rfl

theorem sharesOk_len {xs : List Int} (h : sharesOk xs = true) : 1 ≤ xs.length ∧ xs.length ≤ 7 := by
  unfold sharesOk at h
  simp only [Bool.and_eq_true, inR_iff] at h
  omega

theorem sharesOk_range {xs : List Int} (h : sharesOk xs = true) : rangeOk 20 xs = true := by
  unfold sharesOk at h
  simp only [Bool.and_eq_true] at h
  exact h.1

theorem owedOk_len {xs : List Int} (h : owedOk xs = true) : xs.length ≤ 7 := by
  unfold owedOk at h
  simp only [Bool.and_eq_true, decide_eq_true_eq] at h
  omega

theorem owedOk_in {xs : List Int} (h : owedOk xs = true) : owedIn xs = true := by
  unfold owedOk at h
  simp only [Bool.and_eq_true] at h
  exact h.1

theorem owedIn_at {xs : List Int} (h : owedIn xs = true) {x : Int} (hx : x ∈ xs) : -9999 ≤ x ∧ x ≤ 9999 := by
  unfold owedIn at h
  exact inR_iff.1 (List.all_eq_true.1 h x hx)

set_option maxHeartbeats 400000 in
theorem implSharesValid_any (A : Option Addr) (c : Nat) (xs : List Int) (w : World) (hA : IntsAt w A xs) (hl : xs.length ≤ 1048576) :
    Calls Tryd.prog 38 #[.slice A xs.length c] w fun e w' => e = .returned (.bool (sharesOk xs)) ∧ Below w.heap.size w w' := by
  by_cases h7 : xs.length ≤ 7
  · have hd : decide ((xs.length : Int) ≤ 7) = true := decide_eq_true (by omega)
    cases hr : rangeOk 20 xs with
    | false =>
      have HR := hide hr
      have H3 : Hid (sharesOk xs = false) := hide (by unfold sharesOk; rw [hr]; rfl)
      clear hr
      go_enter Tryd.func38, Tryd.ntmps38
      go_wp2_with fail
      refine (allInRange_self _ _ _ _ _ hA hl).mono ?_
      rintro e w1 ⟨rfl, hB⟩
      rw [HR.out]
      go_wp2_with fail
      go_ret
      exact ⟨by rw [H3.out]; rfl, hB⟩
    | true =>
      have HR := hide hr
      have H3 : Hid (sharesOk xs = decide (0 < sumW xs)) := hide (by
        unfold sharesOk
        rw [hr, Bool.true_and]
        by_cases h1 : 1 ≤ xs.length
        · rw [show inR (xs.length : Int) 1 7 = true from inR_iff.2 (by omega), Bool.true_and]
        · have : xs = [] := List.eq_nil_of_length_eq_zero (by omega)
          subst this
          rfl)
      clear hr
      go_enter Tryd.func38, Tryd.ntmps38
      go_wp2_with fail
      refine (allInRange_self _ _ _ _ _ hA hl).mono ?_
      rintro e w1 ⟨rfl, hB⟩
      rw [HR.out]
      go_wp2_with fail
      refine (sumOf_any _ _ _ _ (hA.below hB) hl).mono ?_
      rintro e w2 ⟨rfl, rfl⟩
      go_wp2_with fail
      go_ret
      exact ⟨by rw [H3.out]; rfl, hB⟩
  · have hd : decide ((xs.length : Int) ≤ 7) = false := decide_eq_false (by omega)
    have H3 : Hid (sharesOk xs = false) := hide (by
      unfold sharesOk
      rw [show inR (xs.length : Int) 1 7 = false from (by
        cases h : inR (xs.length : Int) 1 7 with
        | false => rfl
        | true => have := inR_iff.1 h; omega)]
      simp)
    go_enter Tryd.func38, Tryd.ntmps38
    go_wp2_with fail
    go_ret
    exact ⟨by rw [H3.out]; rfl, by go_grown⟩

set_option maxHeartbeats 400000 in
theorem specSharesValid_any (A : Option Addr) (c : Nat) (xs : List Int) (w : World) (hA : IntsAt w A xs) (hl : xs.length ≤ 1048576) :
    Calls Tryd.prog 39 #[.slice A xs.length c] w fun e w' => e = .returned (.bool (sharesOk xs)) ∧ Below w.heap.size w w' := by
  go_enter Tryd.func39, Tryd.ntmps39
  go_wp2_with fail
  go_loopw [3] (fun i wr => ∃ k : Nat, k ≤ xs.length ∧ i = .int .i64 k ∧ Hid (rangeOk 20 xs = rangeOk 20 (xs.drop k)) ∧ Below w.heap.size w wr) (fun i _ => xs.length - (intOf i).toNat)
  case atStart => exact ⟨0, Nat.zero_le _, rfl, hide rfl, by go_grown⟩
  case round =>
    obtain ⟨k, hk, rfl, HG, hb⟩ := hrel
    have hsz := hb.size
    by_cases hlt : k < xs.length
    · obtain ⟨b, off, rfl, hbl, hc1⟩ := (hA.below hb) k xs[k] (List.getElem?_eq_getElem hlt)
      have HD : Hid (xs.drop k = xs[k] :: xs.drop (k + 1)) := hide (List.drop_eq_getElem_cons hlt)
      generalize xs[k] = p at *
      have hz : (0 : Int) ≤ k := by omega
      have hz2 : (k : Int) < xs.length := by omega
      cases hp : inR p 0 20 with
      | false =>
        have HQ := hide hp
        have H3 : Hid (sharesOk xs = false) := hide (by unfold sharesOk; rw [HG.out, HD.out]; unfold rangeOk; rw [List.all_cons, hp]; rfl)
        clear hp
        go_wp2_with fail
        refine (l1In_is _ _ _ _ HQ _).mono ?_
        rintro e w' ⟨rfl, rfl⟩
        go_wp2_with fail
        go_ret
        exact ⟨by rw [H3.out]; rfl, hb⟩
      | true =>
        have HQ := hide hp
        have H3 : Hid (rangeOk 20 xs = rangeOk 20 (xs.drop (k + 1))) := hide (by rw [HG.out, HD.out]; unfold rangeOk; rw [List.all_cons, hp]; rfl)
        clear hp
        go_wp2_with fail
        refine (l1In_is _ _ _ _ HQ _).mono ?_
        rintro e w' ⟨rfl, rfl⟩
        go_wp2_with fail
        go_roundw
        case rel => exact ⟨k + 1, hlt, by go_num, H3, hb⟩
        case measure => simp [intOf]; omega
    · have HT : Hid (rangeOk 20 xs = true) := hide (by rw [HG.out, List.drop_of_length_le (by omega)]; rfl)
      cases hp : inR (xs.length : Int) 1 7 with
      | false =>
        have HQ := hide hp
        have H3 : Hid (sharesOk xs = false) := hide (by unfold sharesOk; rw [hp]; simp)
        clear hp
        go_wp2_with fail
        refine (l1In_is _ _ _ _ HQ _).mono ?_
        rintro e w' ⟨rfl, rfl⟩
        go_wp2_with fail
        go_ret
        exact ⟨by rw [H3.out]; rfl, hb⟩
      | true =>
        have HQ := hide hp
        have H3 : Hid (sharesOk xs = decide (0 < sumW xs)) := hide (by unfold sharesOk; rw [hp, HT.out]; rfl)
        clear hp
        go_wp2_with fail
        refine (l1In_is _ _ _ _ HQ _).mono ?_
        rintro e w' ⟨rfl, rfl⟩
        go_wp2_with fail
        refine (l1Sum_any _ _ _ _ (hA.below hb) hl).mono ?_
        rintro e w2 ⟨rfl, rfl⟩
        go_wp2_with fail
        go_ret
        exact ⟨by rw [H3.out]; rfl, hb⟩

theorem tip_range {s p : Int} (h0 : 0 ≤ s) (h1 : s ≤ 9999) (h2 : 0 ≤ p) (h3 : p ≤ 100) : 0 ≤ s * p ∧ s * p ≤ 999900 := by
  refine ⟨Int.mul_nonneg h0 h2, ?_⟩
  have := Int.mul_le_mul h1 h3 h2 (by omega)
  omega

set_option maxHeartbeats 400000 in
theorem implTipOf_any (s p : Int) (w : World) :
    Calls Tryd.prog 44 #[.int .i64 s, .int .i64 p] w fun e w' => e = .returned (.int .i64 (tipL s p)) ∧ Below w.heap.size w w' := by
  cases hs : inR s 0 9999 with
  | false =>
    have HS := hide hs
    have H3 : Hid (tipL s p = -1) := hide (by unfold tipL; rw [hs]; rfl)
    clear hs
    go_enter Tryd.func44, Tryd.ntmps44
    go_wp2_with fail
    refine (inRange_is _ _ _ _ HS _).mono ?_
    rintro e w' ⟨rfl, rfl⟩
    go_wp2_with fail
    go_ret
    exact ⟨by rw [H3.out]; rfl, by go_grown⟩
  | true =>
    cases hp : inR p 0 100 with
    | false =>
      have HS := hide hs
      have HP := hide hp
      have H3 : Hid (tipL s p = -1) := hide (by unfold tipL; rw [hp]; simp)
      clear hs hp
      go_enter Tryd.func44, Tryd.ntmps44
      go_wp2_with fail
      refine (inRange_is _ _ _ _ HS _).mono ?_
      rintro e w' ⟨rfl, rfl⟩
      go_wp2_with fail
      refine (inRange_is _ _ _ _ HP _).mono ?_
      rintro e w' ⟨rfl, rfl⟩
      go_wp2_with fail
      go_ret
      exact ⟨by rw [H3.out]; rfl, by go_grown⟩
    | true =>
      have HS := hide hs
      have HP := hide hp
      have H3 : Hid (tipL s p = Int.tdiv (s * p + 100 - 1) 100) := hide (by unfold tipL; rw [hs, hp, if_pos (by rfl)]; congr 1; omega)
      obtain ⟨hs0, hs1⟩ := inR_iff.1 hs
      obtain ⟨hp0, hp1⟩ := inR_iff.1 hp
      obtain ⟨hm0, hm1⟩ := tip_range hs0 hs1 hp0 hp1
      have hw1 : IntKind.i64.wrap (s * p) = s * p := IntWalk.i64_in _ (by omega)
      have hw2 : IntKind.i64.wrap (s * p + 100) = s * p + 100 := IntWalk.i64_in _ (by omega)
      have hw3 : IntKind.i64.wrap (s * p + 100 - 1) = s * p + 100 - 1 := IntWalk.i64_in _ (by omega)
      have hw4 : IntKind.i64.wrap (Int.tdiv (s * p + 100 - 1) 100) = Int.tdiv (s * p + 100 - 1) 100 := IntWalk.i64_in _ (by rw [Int.tdiv_eq_ediv_of_nonneg (by omega)]; omega)
      clear hs hp
      go_enter Tryd.func44, Tryd.ntmps44
      go_wp2_with fail
      refine (inRange_is _ _ _ _ HS _).mono ?_
      rintro e w' ⟨rfl, rfl⟩
      go_wp2_with fail
      refine (inRange_is _ _ _ _ HP _).mono ?_
      rintro e w' ⟨rfl, rfl⟩
      go_wp2_with fail
      go_ret
      exact ⟨by rw [H3.out]; rfl, by go_grown⟩

set_option maxHeartbeats 400000 in
theorem specTipOf_any (s p : Int) (w : World) :
    Calls Tryd.prog 45 #[.int .i64 s, .int .i64 p] w fun e w' => e = .returned (.int .i64 (tipL s p)) ∧ Below w.heap.size w w' := by
  cases hs : inR s 0 9999 with
  | false =>
    have HS := hide hs
    have H3 : Hid (tipL s p = -1) := hide (by unfold tipL; rw [hs]; rfl)
    clear hs
    go_enter Tryd.func45, Tryd.ntmps45
    go_wp2_with fail
    refine (l1In_is _ _ _ _ HS _).mono ?_
    rintro e w' ⟨rfl, rfl⟩
    go_wp2_with fail
    go_ret
    exact ⟨by rw [H3.out]; rfl, by go_grown⟩
  | true =>
    cases hp : inR p 0 100 with
    | false =>
      have HS := hide hs
      have HP := hide hp
      have H3 : Hid (tipL s p = -1) := hide (by unfold tipL; rw [hp]; simp)
      clear hs hp
      go_enter Tryd.func45, Tryd.ntmps45
      go_wp2_with fail
      refine (l1In_is _ _ _ _ HS _).mono ?_
      rintro e w' ⟨rfl, rfl⟩
      go_wp2_with fail
      refine (l1In_is _ _ _ _ HP _).mono ?_
      rintro e w' ⟨rfl, rfl⟩
      go_wp2_with fail
      go_ret
      exact ⟨by rw [H3.out]; rfl, by go_grown⟩
    | true =>
      have HS := hide hs
      have HP := hide hp
      have H3 : Hid (tipL s p = Int.tdiv (s * p + 99) 100) := hide (by unfold tipL; rw [hs, hp, if_pos (by rfl)])
      obtain ⟨hs0, hs1⟩ := inR_iff.1 hs
      obtain ⟨hp0, hp1⟩ := inR_iff.1 hp
      obtain ⟨hm0, hm1⟩ := tip_range hs0 hs1 hp0 hp1
      have hw1 : IntKind.i64.wrap (s * p) = s * p := IntWalk.i64_in _ (by omega)
      have hw2 : IntKind.i64.wrap (s * p + 99) = s * p + 99 := IntWalk.i64_in _ (by omega)
      have hw4 : IntKind.i64.wrap (Int.tdiv (s * p + 99) 100) = Int.tdiv (s * p + 99) 100 := IntWalk.i64_in _ (by rw [Int.tdiv_eq_ediv_of_nonneg (by omega)]; omega)
      clear hs hp
      go_enter Tryd.func45, Tryd.ntmps45
      go_wp2_with fail
      refine (l1In_is _ _ _ _ HS _).mono ?_
      rintro e w' ⟨rfl, rfl⟩
      go_wp2_with fail
      refine (l1In_is _ _ _ _ HP _).mono ?_
      rintro e w' ⟨rfl, rfl⟩
      go_wp2_with fail
      go_ret
      exact ⟨by rw [H3.out]; rfl, by go_grown⟩

set_option maxHeartbeats 400000 in
theorem implOwedValid_any (A : Option Addr) (c : Nat) (xs : List Int) (w : World) (hA : IntsAt w A xs) (hl : xs.length ≤ 1048576) :
    Calls Tryd.prog 47 #[.slice A xs.length c] w fun e w' => e = .returned (.bool (owedOk xs)) ∧ Below w.heap.size w w' := by
  by_cases h7 : xs.length ≤ 7
  · have HR : Hid (owedOk xs = (owedIn xs && (sumW xs == 0))) := by unfold owedOk; rw [decide_eq_true h7]; exact hide rfl
    go_enter Tryd.func47, Tryd.ntmps47
    go_wp2_with fail
    go_loopw [10] (fun i wr => ∃ k : Nat, k ≤ xs.length ∧ i = .int .i64 k ∧ Hid (owedIn xs = owedIn (xs.drop k)) ∧ Below w.heap.size w wr) (fun i _ => xs.length - (intOf i).toNat)
    case atStart => exact ⟨0, Nat.zero_le _, rfl, hide rfl, by go_grown⟩
    case round =>
      obtain ⟨k, hk, rfl, HG, hb⟩ := hrel
      have hsz := hb.size
      by_cases hlt : k < xs.length
      · obtain ⟨b, off, rfl, hbl, hc1⟩ := (hA.below hb) k xs[k] (List.getElem?_eq_getElem hlt)
        have HD : Hid (xs.drop k = xs[k] :: xs.drop (k + 1)) := hide (List.drop_eq_getElem_cons hlt)
        generalize xs[k] = p at *
        have hz : (0 : Int) ≤ k := by omega
        have hz2 : (k : Int) < xs.length := by omega
        cases hp : inR p (-9999) 9999 with
        | false =>
          have HQ := hide hp
          have H3 : Hid (owedOk xs = false) := hide (by rw [HR.out, HG.out, HD.out]; unfold owedIn; rw [List.all_cons, hp]; rfl)
          clear hp
          go_wp2_with fail
          refine (inRange_is _ _ _ _ HQ _).mono ?_
          rintro e w' ⟨rfl, rfl⟩
          go_wp2_with fail
          go_ret
          exact ⟨by rw [H3.out]; rfl, hb⟩
        | true =>
          have HQ := hide hp
          have H3 : Hid (owedIn xs = owedIn (xs.drop (k + 1))) := hide (by rw [HG.out, HD.out]; unfold owedIn; rw [List.all_cons, hp]; rfl)
          clear hp
          go_wp2_with fail
          refine (inRange_is _ _ _ _ HQ _).mono ?_
          rintro e w' ⟨rfl, rfl⟩
          go_wp2_with fail
          go_roundw
          case rel => exact ⟨k + 1, hlt, by go_num, H3, hb⟩
          case measure => simp [intOf]; omega
      · have H3 : Hid (owedOk xs = (sumW xs == 0)) := hide (by rw [HR.out, HG.out, List.drop_of_length_le (by omega)]; rfl)
        go_wp2_with fail
        refine (sumOf_any _ _ _ _ (hA.below hb) hl).mono ?_
        rintro e w2 ⟨rfl, rfl⟩
        go_wp2_with fail
        go_ret
        exact ⟨by rw [H3.out]; rfl, hb⟩
  · have H3 : Hid (owedOk xs = false) := hide (by unfold owedOk; rw [decide_eq_false h7]; simp)
    go_enter Tryd.func47, Tryd.ntmps47
    go_wp2_with fail
    go_ret
    exact ⟨by rw [H3.out]; rfl, by go_grown⟩

set_option maxHeartbeats 400000 in
theorem specOwedValid_any (A : Option Addr) (c : Nat) (xs : List Int) (w : World) (hA : IntsAt w A xs) (hl : xs.length ≤ 1048576) :
    Calls Tryd.prog 48 #[.slice A xs.length c] w fun e w' => e = .returned (.bool (owedOk xs)) ∧ Below w.heap.size w w' := by
  go_enter Tryd.func48, Tryd.ntmps48
  go_wp2_with fail
  go_loopw [3] (fun i wr => ∃ k : Nat, k ≤ xs.length ∧ i = .int .i64 k ∧ Hid (owedIn xs = owedIn (xs.drop k)) ∧ Below w.heap.size w wr) (fun i _ => xs.length - (intOf i).toNat)
  case atStart => exact ⟨0, Nat.zero_le _, rfl, hide rfl, by go_grown⟩
  case round =>
    obtain ⟨k, hk, rfl, HG, hb⟩ := hrel
    have hsz := hb.size
    by_cases hlt : k < xs.length
    · obtain ⟨b, off, rfl, hbl, hc1⟩ := (hA.below hb) k xs[k] (List.getElem?_eq_getElem hlt)
      have HD : Hid (xs.drop k = xs[k] :: xs.drop (k + 1)) := hide (List.drop_eq_getElem_cons hlt)
      generalize xs[k] = p at *
      have hz : (0 : Int) ≤ k := by omega
      have hz2 : (k : Int) < xs.length := by omega
      cases hp : inR p (-9999) 9999 with
      | false =>
        have HQ := hide hp
        have H3 : Hid (owedOk xs = false) := hide (by unfold owedOk; rw [HG.out, HD.out]; unfold owedIn; rw [List.all_cons, hp]; rfl)
        clear hp
        go_wp2_with fail
        refine (l1In_is _ _ _ _ HQ _).mono ?_
        rintro e w' ⟨rfl, rfl⟩
        go_wp2_with fail
        go_ret
        exact ⟨by rw [H3.out]; rfl, hb⟩
      | true =>
        have HQ := hide hp
        have H3 : Hid (owedIn xs = owedIn (xs.drop (k + 1))) := hide (by rw [HG.out, HD.out]; unfold owedIn; rw [List.all_cons, hp]; rfl)
        clear hp
        go_wp2_with fail
        refine (l1In_is _ _ _ _ HQ _).mono ?_
        rintro e w' ⟨rfl, rfl⟩
        go_wp2_with fail
        go_roundw
        case rel => exact ⟨k + 1, hlt, by go_num, H3, hb⟩
        case measure => simp [intOf]; omega
    · have HT : Hid (owedIn xs = true) := hide (by rw [HG.out, List.drop_of_length_le (by omega)]; rfl)
      by_cases h7 : xs.length ≤ 7
      · have hd : decide ((xs.length : Int) ≤ 7) = true := decide_eq_true (by omega)
        have H3 : Hid (owedOk xs = (sumW xs == 0)) := hide (by unfold owedOk; rw [HT.out, decide_eq_true h7]; rfl)
        go_wp2_with fail
        refine (l1Sum_any _ _ _ _ (hA.below hb) hl).mono ?_
        rintro e w2 ⟨rfl, rfl⟩
        go_wp2_with fail
        go_ret
        exact ⟨by rw [H3.out]; rfl, hb⟩
      · have hd : decide ((xs.length : Int) ≤ 7) = false := decide_eq_false (by omega)
        have H3 : Hid (owedOk xs = false) := hide (by unfold owedOk; rw [decide_eq_false h7]; simp)
        go_wp2_with fail
        go_ret
        exact ⟨by rw [H3.out]; rfl, hb⟩
end Go.Proofs.YteocmjffjinphaaDoor
