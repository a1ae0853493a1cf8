/- The least, the greatest and the first place of a number in a list; slices.Min, Max and Index at lists of numbers.
   Conditions: lists have at most 1048576 elements. -/
import Derived.Test.YtgagfaajilbmmaaDoorSums
namespace Go.Proofs.YtgagfaajilbmmaaDoor
open Go.RowKit

def minFrom : Int → List Int → Int
  | m, [] => m
  | m, x :: r => minFrom (if x < m then x else m) r
def maxFrom : Int → List Int → Int
  | m, [] => m
  | m, x :: r => maxFrom (if m < x then x else m) r
def minL (xs : List Int) : Int := minFrom (xs.headD 0) xs.tail
def maxL (xs : List Int) : Int := maxFrom (xs.headD 0) xs.tail
def idxL (v : Int) : List Int → Nat
  | [] => 0
  | x :: r => if v = x then 0 else idxL v r + 1

theorem minFrom_le : ∀ (xs : List Int) (m : Int), minFrom m xs ≤ m ∧ ∀ x ∈ xs, minFrom m xs ≤ x
  | [], m => by simp [minFrom]
  | y :: r, m => by
    have ih := minFrom_le r (if y < m then y else m)
    unfold minFrom
    refine ⟨by have := ih.1; split at this <;> omega, fun x hx => ?_⟩
    rcases List.mem_cons.1 hx with rfl | hx
    · have := ih.1
      split at this <;> omega
    · exact ih.2 x hx
theorem minFrom_mem : ∀ (xs : List Int) (m : Int), minFrom m xs = m ∨ minFrom m xs ∈ xs
  | [], m => .inl rfl
  | y :: r, m => by
    unfold minFrom
    rcases minFrom_mem r (if y < m then y else m) with h | h
    · rw [h]
      split
      · exact .inr (by simp)
      · exact .inl rfl
    · exact .inr (by simp [h])
theorem maxFrom_le : ∀ (xs : List Int) (m : Int), m ≤ maxFrom m xs ∧ ∀ x ∈ xs, x ≤ maxFrom m xs
  | [], m => by simp [maxFrom]
  | y :: r, m => by
    have ih := maxFrom_le r (if m < y then y else m)
    unfold maxFrom
    refine ⟨by have := ih.1; split at this <;> omega, fun x hx => ?_⟩
    rcases List.mem_cons.1 hx with rfl | hx
    · have := ih.1
      split at this <;> omega
    · exact ih.2 x hx
theorem maxFrom_mem : ∀ (xs : List Int) (m : Int), maxFrom m xs = m ∨ maxFrom m xs ∈ xs
  | [], m => .inl rfl
  | y :: r, m => by
    unfold maxFrom
    rcases maxFrom_mem r (if m < y then y else m) with h | h
    · rw [h]
      split
      · exact .inr (by simp)
      · exact .inl rfl
    · exact .inr (by simp [h])
theorem minL_mem {xs : List Int} (h : 0 < xs.length) : minL xs ∈ xs := by
  cases xs with
  | nil => simp at h
  | cons x r =>
    rcases minFrom_mem r x with e | e
    · unfold minL; simp only [List.headD_cons, List.tail_cons, e]; simp
    · unfold minL; simp only [List.headD_cons, List.tail_cons]; simp [e]
theorem maxL_mem {xs : List Int} (h : 0 < xs.length) : maxL xs ∈ xs := by
  cases xs with
  | nil => simp at h
  | cons x r =>
    rcases maxFrom_mem r x with e | e
    · unfold maxL; simp only [List.headD_cons, List.tail_cons, e]; simp
    · unfold maxL; simp only [List.headD_cons, List.tail_cons]; simp [e]
theorem minL_le {xs : List Int} {x : Int} (h : x ∈ xs) : minL xs ≤ x := by
  cases xs with
  | nil => simp at h
  | cons y r =>
    have := minFrom_le r y
    unfold minL
    simp only [List.headD_cons, List.tail_cons]
    rcases List.mem_cons.1 h with rfl | h
    · exact this.1
    · exact this.2 x h
theorem maxL_le {xs : List Int} {x : Int} (h : x ∈ xs) : x ≤ maxL xs := by
  cases xs with
  | nil => simp at h
  | cons y r =>
    have := maxFrom_le r y
    unfold maxL
    simp only [List.headD_cons, List.tail_cons]
    rcases List.mem_cons.1 h with rfl | h
    · exact this.1
    · exact this.2 x h

theorem idxL_spec {v : Int} : ∀ {xs : List Int}, v ∈ xs → idxL v xs < xs.length ∧ xs.getD (idxL v xs) 0 = v ∧ ∀ j, j < idxL v xs → xs.getD j 0 ≠ v
  | [], h => by simp at h
  | x :: r, h => by
    unfold idxL
    by_cases e : v = x
    · rw [if_pos e]
      exact ⟨by simp, by simp [e], fun j hj => absurd hj (by omega)⟩
    · rw [if_neg e]
      have hr : v ∈ r := by
        rcases List.mem_cons.1 h with h | h
        · exact absurd h e
        · exact h
      have ih := idxL_spec hr
      refine ⟨by simp only [List.length_cons]; omega, by simpa using ih.2.1, fun j hj => ?_⟩
      cases j with
      | zero => simpa using Ne.symm e
      | succ j => simpa using ih.2.2 j (by omega)
theorem idxL_eq {v : Int} {j : Nat} : ∀ {xs : List Int}, j < xs.length → xs.getD j 0 = v → (∀ i, i < j → xs.getD i 0 ≠ v) → idxL v xs = j := by
  intro xs hj hv hn
  have hm : v ∈ xs := by rw [← hv]; simp [hj]
  have h := idxL_spec hm
  rcases Nat.lt_trichotomy (idxL v xs) j with e | e | e
  · exact absurd h.2.1 (hn _ e)
  · exact e
  · exact absurd hv (h.2.2 j e)

set_option maxHeartbeats 400000 in
theorem slicesMin_any (A : Option Addr) (c : Nat) (xs : List Int) (w : World) (hA : IntsAt w A xs) (hl : xs.length ≤ 1048576) (h0 : 0 < xs.length) :
    Calls Tryd.prog 93 #[.slice A xs.length c] w fun e w' => e = .returned (.int .i64 (minL xs)) ∧ w = w' := by
  obtain ⟨b0, off0, rfl, hbl0, hc0⟩ := hA 0 xs[0] (List.getElem?_eq_getElem h0)
  have HS : Hid (minL xs = minFrom xs[0] (xs.drop 1)) := hide (by
    cases xs with
    | nil => simp at h0
    | cons x r => rfl)
  generalize xs[0] = x0 at *
  rw [Nat.add_zero] at hc0
  have hn1 : ¬ ((xs.length : Int) < 1) := by omega
  have hn2 : (0 : Int) < xs.length := by omega
  go_enter Tryd.func93, Tryd.ntmps93
  go_wp2_with fail
  go_loopw [3, 4] (fun sv i wr => ∃ (k : Nat) (s : Int), 1 ≤ k ∧ k ≤ xs.length ∧ i = .int .i64 k ∧ sv = .int .i64 s ∧ Hid (minL xs = minFrom s (xs.drop k)) ∧ w = wr) (fun _ i _ => xs.length - (intOf i).toNat)
  case atStart => exact ⟨1, x0, Nat.le_refl _, h0, rfl, rfl, HS, rfl⟩
  case round =>
    obtain ⟨k, s, hk1, hk, rfl, rfl, HG, rfl⟩ := hrel
    by_cases hlt : k < xs.length
    · obtain ⟨b, off, e, hbl, hc1⟩ := hA k xs[k] (List.getElem?_eq_getElem hlt)
      injection e with e
      injection e with e1 e2
      subst e1 e2
      have HD : Hid (xs.drop k = xs[k] :: xs.drop (k + 1)) := hide (List.drop_eq_getElem_cons hlt)
      generalize xs[k] = p at *
      have H3 : Hid (minL xs = minFrom (if p < s then p else s) (xs.drop (k + 1))) := hide (by rw [HG.out, HD.out, minFrom])
      have hz : (0 : Int) ≤ k := by omega
      have hz2 : (k : Int) < xs.length := by omega
      go_wp2_with fail
      go_roundw
      case rel => exact ⟨k + 1, _, by omega, hlt, by go_num, rfl, H3, trivial⟩
      case measure => simp [intOf]; omega
    · have H3 : Hid (minL xs = s) := hide (by rw [HG.out, List.drop_of_length_le (by omega), minFrom])
      go_wp2_with fail
      go_ret
      exact ⟨by rw [H3.out]; rfl, rfl⟩

set_option maxHeartbeats 400000 in
theorem slicesMax_any (A : Option Addr) (c : Nat) (xs : List Int) (w : World) (hA : IntsAt w A xs) (hl : xs.length ≤ 1048576) (h0 : 0 < xs.length) :
    Calls Tryd.prog 94 #[.slice A xs.length c] w fun e w' => e = .returned (.int .i64 (maxL xs)) ∧ w = w' := by
  obtain ⟨b0, off0, rfl, hbl0, hc0⟩ := hA 0 xs[0] (List.getElem?_eq_getElem h0)
  have HS : Hid (maxL xs = maxFrom xs[0] (xs.drop 1)) := hide (by
    cases xs with
    | nil => simp at h0
    | cons x r => rfl)
  generalize xs[0] = x0 at *
  rw [Nat.add_zero] at hc0
  have hn1 : ¬ ((xs.length : Int) < 1) := by omega
  have hn2 : (0 : Int) < xs.length := by omega
  go_enter Tryd.func94, Tryd.ntmps94
  go_wp2_with fail
  go_loopw [3, 4] (fun sv i wr => ∃ (k : Nat) (s : Int), 1 ≤ k ∧ k ≤ xs.length ∧ i = .int .i64 k ∧ sv = .int .i64 s ∧ Hid (maxL xs = maxFrom s (xs.drop k)) ∧ w = wr) (fun _ i _ => xs.length - (intOf i).toNat)
  case atStart => exact ⟨1, x0, Nat.le_refl _, h0, rfl, rfl, HS, rfl⟩
  case round =>
    obtain ⟨k, s, hk1, hk, rfl, rfl, HG, rfl⟩ := hrel
    by_cases hlt : k < xs.length
    · obtain ⟨b, off, e, hbl, hc1⟩ := hA k xs[k] (List.getElem?_eq_getElem hlt)
      injection e with e
      injection e with e1 e2
      subst e1 e2
      have HD : Hid (xs.drop k = xs[k] :: xs.drop (k + 1)) := hide (List.drop_eq_getElem_cons hlt)
      generalize xs[k] = p at *
      have H3 : Hid (maxL xs = maxFrom (if s < p then p else s) (xs.drop (k + 1))) := hide (by rw [HG.out, HD.out, maxFrom])
      have hz : (0 : Int) ≤ k := by omega
      have hz2 : (k : Int) < xs.length := by omega
      go_wp2_with fail
      go_roundw
      case rel => exact ⟨k + 1, _, by omega, hlt, by go_num, rfl, H3, trivial⟩
      case measure => simp [intOf]; omega
    · have H3 : Hid (maxL xs = s) := hide (by rw [HG.out, List.drop_of_length_le (by omega), maxFrom])
      go_wp2_with fail
      go_ret
      exact ⟨by rw [H3.out]; rfl, rfl⟩

set_option maxHeartbeats 400000 in
theorem slicesIndex_any (A : Option Addr) (c : Nat) (xs : List Int) (v : Int) (w : World) (hA : IntsAt w A xs) (hl : xs.length ≤ 1048576) (HV : Hid (v ∈ xs)) :
    Calls Tryd.prog 95 #[.slice A xs.length c, .int .i64 v] w fun e w' => e = .returned (.int .i64 (idxL v xs : Nat)) ∧ w = w' := by
  go_enter Tryd.func95, Tryd.ntmps95
  go_wp2_with fail
  go_loopw [8] (fun i wr => ∃ (k : Nat), k ≤ xs.length ∧ i = .int .i64 k ∧ Hid (idxL v xs = k + idxL v (xs.drop k)) ∧ Hid (v ∈ xs.drop k) ∧ w = wr) (fun i _ => xs.length - (intOf i).toNat)
  case atStart => exact ⟨0, Nat.zero_le _, rfl, hide (by simp), by simpa using HV, rfl⟩
  case round =>
    obtain ⟨k, hk, rfl, HG, HM, rfl⟩ := hrel
    by_cases hlt : k < xs.length
    · obtain ⟨b, off, rfl, hbl, hc1⟩ := hA k xs[k] (List.getElem?_eq_getElem hlt)
      have HD : Hid (xs.drop k = xs[k] :: xs.drop (k + 1)) := hide (List.drop_eq_getElem_cons hlt)
      generalize xs[k] = p at *
      have hz : (0 : Int) ≤ k := by omega
      have hz2 : (k : Int) < xs.length := by omega
      by_cases hp : v = p
      · have H3 : Hid (idxL v xs = k) := hide (by rw [HG.out, HD.out, idxL, if_pos hp]; omega)
        have hp2 : (v == p) = true := by simpa using hp
        clear hp
        go_wp2_with fail
        go_ret
        exact ⟨by rw [H3.out]; rfl, rfl⟩
      · have H3 : Hid (idxL v xs = (k + 1) + idxL v (xs.drop (k + 1))) := hide (by rw [HG.out, HD.out, idxL, if_neg hp]; omega)
        have HM2 : Hid (v ∈ xs.drop (k + 1)) := hide (by
          have := HM.out
          rw [HD.out] at this
          rcases List.mem_cons.1 this with e | e
          · exact absurd e hp
          · exact e)
        have hp2 : (v == p) = false := by simpa using hp
        clear hp
        go_wp2_with fail
        go_roundw
        case rel => exact ⟨k + 1, hlt, by go_num, H3, HM2, trivial⟩
        case measure => simp [intOf]; omega
    · exact absurd HM.out (by rw [List.drop_of_length_le (by omega)]; simp)

end Go.Proofs.YtgagfaajilbmmaaDoor
