/- Bills: valid shares, tips, valid debts; contracts of the program and of the reference model.
   Conditions: lists have at most 1048576 elements. -/
import Derived.Test.YtgagfaajilbmmaaDoorSums
namespace Go.Proofs.YtgagfaajilbmmaaDoor
open Go.RowKit

def sharesOk (xs : List Int) : Bool := rangeOk 20 xs && (inR (xs.length : Int) 1 7 && decide (0 < sumW xs))
def tipL (s p : Int) : Int := if (inR s 0 9999 && inR p 0 100) = true then Int.tdiv (s * p + 99) 100 else -1
def owedIn (xs : List Int) : Bool := xs.all (fun x => inR x (-9999) 9999)
def owedOk (xs : List Int) : Bool := owedIn xs && (decide (xs.length ≤ 7) && (sumW xs == 0))

theorem sumW_nil : sumW [] = 0 := rfl

theorem sharesOk_len {xs : List Int} (h : sharesOk xs = true) : 1 ≤ xs.length ∧ xs.length ≤ 7 := by
  unfold sharesOk at h
  simp only [Bool.and_eq_true, inR_iff] at h
  omega

theorem sharesOk_range {xs : List Int} (h : sharesOk xs = true) : rangeOk 20 xs = true := by
  unfold sharesOk at h
  simp only [Bool.and_eq_true] at h
  exact h.1

theorem owedOk_len {xs : List Int} (h : owedOk xs = true) : xs.length ≤ 7 := by
  unfold owedOk at h
  simp only [Bool.and_eq_true, decide_eq_true_eq] at h
  omega

theorem owedOk_in {xs : List Int} (h : owedOk xs = true) : owedIn xs = true := by
  unfold owedOk at h
  simp only [Bool.and_eq_true] at h
  exact h.1

theorem owedIn_at {xs : List Int} (h : owedIn xs = true) {x : Int} (hx : x ∈ xs) : -9999 ≤ x ∧ x ≤ 9999 := by
  unfold owedIn at h
  exact inR_iff.1 (List.all_eq_true.1 h x hx)

theorem tip_range {s p : Int} (h0 : 0 ≤ s) (h1 : s ≤ 9999) (h2 : 0 ≤ p) (h3 : p ≤ 100) : 0 ≤ s * p ∧ s * p ≤ 999900 := by
  refine ⟨Int.mul_nonneg h0 h2, ?_⟩
  have := Int.mul_le_mul h1 h3 h2 (by omega)
  omega

set_option maxHeartbeats 400000 in
theorem implOwedValid_any (A : Option Addr) (c : Nat) (xs : List Int) (w : World) (hA : IntsAt w A xs) (hl : xs.length ≤ 1048576) :
    Calls Tryd.prog 82 #[.slice A xs.length c] w fun e w' => e = .returned (.bool (owedOk xs)) ∧ Below w.heap.size w w' := by
  by_cases h7 : xs.length ≤ 7
  · have HR : Hid (owedOk xs = (owedIn xs && (sumW xs == 0))) := by unfold owedOk; rw [decide_eq_true h7]; exact hide rfl
    go_enter Tryd.func82, Tryd.ntmps82
    go_wp2_with fail
    go_loopw [10] (fun i wr => ∃ k : Nat, k ≤ xs.length ∧ i = .int .i64 k ∧ Hid (owedIn xs = owedIn (xs.drop k)) ∧ Below w.heap.size w wr) (fun i _ => xs.length - (intOf i).toNat)
    case atStart => exact ⟨0, Nat.zero_le _, rfl, hide rfl, by go_grown⟩
    case round =>
      obtain ⟨k, hk, rfl, HG, hb⟩ := hrel
      have hsz := hb.size
      by_cases hlt : k < xs.length
      · obtain ⟨b, off, rfl, hbl, hc1⟩ := (hA.below hb) k xs[k] (List.getElem?_eq_getElem hlt)
        have HD : Hid (xs.drop k = xs[k] :: xs.drop (k + 1)) := hide (List.drop_eq_getElem_cons hlt)
        generalize xs[k] = p at *
        have hz : (0 : Int) ≤ k := by omega
        have hz2 : (k : Int) < xs.length := by omega
        cases hp : inR p (-9999) 9999 with
        | false =>
          have HQ := hide hp
          have H3 : Hid (owedOk xs = false) := hide (by rw [HR.out, HG.out, HD.out]; unfold owedIn; rw [List.all_cons, hp]; rfl)
          clear hp
          go_wp2_with fail
          refine (inRange_is _ _ _ _ HQ _).mono ?_
          rintro e w' ⟨rfl, rfl⟩
          go_wp2_with fail
          go_ret
          exact ⟨by rw [H3.out]; rfl, hb⟩
        | true =>
          have HQ := hide hp
          have H3 : Hid (owedIn xs = owedIn (xs.drop (k + 1))) := hide (by rw [HG.out, HD.out]; unfold owedIn; rw [List.all_cons, hp]; rfl)
          clear hp
          go_wp2_with fail
          refine (inRange_is _ _ _ _ HQ _).mono ?_
          rintro e w' ⟨rfl, rfl⟩
          go_wp2_with fail
          go_roundw
          case rel => exact ⟨k + 1, hlt, by go_num, H3, hb⟩
          case measure => simp [intOf]; omega
      · have H3 : Hid (owedOk xs = (sumW xs == 0)) := hide (by rw [HR.out, HG.out, List.drop_of_length_le (by omega)]; rfl)
        go_wp2_with fail
        refine (sumOf_any _ _ _ _ (hA.below hb) hl).mono ?_
        rintro e w2 ⟨rfl, rfl⟩
        go_wp2_with fail
        go_ret
        exact ⟨by rw [H3.out]; rfl, hb⟩
  · have H3 : Hid (owedOk xs = false) := hide (by unfold owedOk; rw [decide_eq_false h7]; simp)
    go_enter Tryd.func82, Tryd.ntmps82
    go_wp2_with fail
    go_ret
    exact ⟨by rw [H3.out]; rfl, by go_grown⟩

set_option maxHeartbeats 400000 in
theorem specOwedValid_any (A : Option Addr) (c : Nat) (xs : List Int) (w : World) (hA : IntsAt w A xs) (hl : xs.length ≤ 1048576) :
    Calls Tryd.prog 49 #[.slice A xs.length c] w fun e w' => e = .returned (.bool (owedOk xs)) ∧ Below w.heap.size w w' := by
  go_enter Tryd.func49, Tryd.ntmps49
  go_wp2_with fail
  go_loopw [3] (fun i wr => ∃ k : Nat, k ≤ xs.length ∧ i = .int .i64 k ∧ Hid (owedIn xs = owedIn (xs.drop k)) ∧ Below w.heap.size w wr) (fun i _ => xs.length - (intOf i).toNat)
  case atStart => exact ⟨0, Nat.zero_le _, rfl, hide rfl, by go_grown⟩
  case round =>
    obtain ⟨k, hk, rfl, HG, hb⟩ := hrel
    have hsz := hb.size
    by_cases hlt : k < xs.length
    · obtain ⟨b, off, rfl, hbl, hc1⟩ := (hA.below hb) k xs[k] (List.getElem?_eq_getElem hlt)
      have HD : Hid (xs.drop k = xs[k] :: xs.drop (k + 1)) := hide (List.drop_eq_getElem_cons hlt)
      generalize xs[k] = p at *
      have hz : (0 : Int) ≤ k := by omega
      have hz2 : (k : Int) < xs.length := by omega
      cases hp : inR p (-9999) 9999 with
      | false =>
        have HQ := hide hp
        have H3 : Hid (owedOk xs = false) := hide (by unfold owedOk; rw [HG.out, HD.out]; unfold owedIn; rw [List.all_cons, hp]; rfl)
        clear hp
        go_wp2_with fail
        refine (l1In_is _ _ _ _ HQ _).mono ?_
        rintro e w' ⟨rfl, rfl⟩
        go_wp2_with fail
        go_ret
        exact ⟨by rw [H3.out]; rfl, hb⟩
      | true =>
        have HQ := hide hp
        have H3 : Hid (owedIn xs = owedIn (xs.drop (k + 1))) := hide (by rw [HG.out, HD.out]; unfold owedIn; rw [List.all_cons, hp]; rfl)
        clear hp
        go_wp2_with fail
        refine (l1In_is _ _ _ _ HQ _).mono ?_
        rintro e w' ⟨rfl, rfl⟩
        go_wp2_with fail
        go_roundw
        case rel => exact ⟨k + 1, hlt, by go_num, H3, hb⟩
        case measure => simp [intOf]; omega
    · have HT : Hid (owedIn xs = true) := hide (by rw [HG.out, List.drop_of_length_le (by omega)]; rfl)
      by_cases h7 : xs.length ≤ 7
      · have hd : decide ((xs.length : Int) ≤ 7) = true := decide_eq_true (by omega)
        have H3 : Hid (owedOk xs = (sumW xs == 0)) := hide (by unfold owedOk; rw [HT.out, decide_eq_true h7]; rfl)
        go_wp2_with fail
        refine (l1Sum_any _ _ _ _ (hA.below hb) hl).mono ?_
        rintro e w2 ⟨rfl, rfl⟩
        go_wp2_with fail
        go_ret
        exact ⟨by rw [H3.out]; rfl, hb⟩
      · have hd : decide ((xs.length : Int) ≤ 7) = false := decide_eq_false (by omega)
        have H3 : Hid (owedOk xs = false) := hide (by unfold owedOk; rw [decide_eq_false h7]; simp)
        go_wp2_with fail
        go_ret
        exact ⟨by rw [H3.out]; rfl, hb⟩
end Go.Proofs.YtgagfaajilbmmaaDoor
