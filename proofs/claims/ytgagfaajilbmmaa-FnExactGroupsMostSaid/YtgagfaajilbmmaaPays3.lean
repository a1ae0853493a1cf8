/- PaysOk: contracts of the program and of the reference model; the set of those who are open.
   Conditions: lists have at most 1048576 elements. -/
import Derived.Test.YtgagfaajilbmmaaPays2
namespace Go.Proofs.Ytgagfaajilbmmaa
open Go.RowKit Go.ChangeShapes Go.WideShapes Go.ChangeAt Go.Deep

def openGo : Nat → List Int → Int
  | _, [] => 0
  | k, x :: r => (if (x != 0) = true then 2 ^ k else 0) + openGo (k + 1) r
def openS (xs : List Int) : Int := openGo 0 xs

theorem openGo_range : ∀ (xs : List Int) (k : Nat), 0 ≤ openGo k xs ∧ openGo k xs + 2 ^ k ≤ 2 ^ (k + xs.length)
  | [], k => by simp [openGo]
  | x :: r, k => by
    have ih := openGo_range r (k + 1)
    have h2 : (2 : Int) ^ (k + 1) = 2 ^ k + 2 ^ k := by rw [Int.pow_succ]; omega
    have h0 : (0 : Int) ≤ 2 ^ k := Int.pow_nonneg (by omega)
    rw [List.length_cons, show k + (r.length + 1) = k + 1 + r.length from by omega]
    unfold openGo
    split <;> omega

theorem openGo_zero : ∀ (xs : List Int) (k : Nat), (openGo k xs == 0) = xs.all (· == 0)
  | [], k => by simp [openGo]
  | x :: r, k => by
    have ih := openGo_zero r (k + 1)
    have hr := openGo_range r (k + 1)
    have h1 : (1 : Int) ≤ 2 ^ k := by have := Int.pow_pos (n := 2) (m := k) (by omega); omega
    unfold openGo
    rw [List.all_cons, ← ih]
    by_cases hx : x = 0
    · subst hx
      simp
    · rw [if_pos (by simpa using hx)]
      have e1 : (x == 0) = false := by simpa using hx
      rw [e1, Bool.false_and]
      simp
      omega

theorem openS_zero (xs : List Int) : (openS xs == 0) = xs.all (· == 0) := openGo_zero xs 0

theorem or_bit_all : ∀ k : Fin 7, ∀ s : Fin 128, s.val < 2 ^ k.val → bits .or .i64 (s.val : Int) (wrap64 (2 ^ k.val)) = (s.val : Int) + 2 ^ k.val := by decide +kernel

theorem or_bit {s : Int} {k : Nat} (h0 : 0 ≤ s) (h1 : s < 2 ^ k) (hk : k < 7) : bits .or .i64 s (wrap64 (2 ^ k)) = s + 2 ^ k := by
  obtain ⟨n, rfl⟩ := Int.eq_ofNat_of_zero_le h0
  have hn : n < 2 ^ k := by
    have e : ((2 : Int) ^ k) = ((2 ^ k : Nat) : Int) := by simp
    rw [e] at h1
    omega
  have h2 : (2 : Nat) ^ k ≤ 2 ^ 6 := Nat.pow_le_pow_right (by omega) (by omega)
  have := or_bit_all ⟨k, hk⟩ ⟨n, by have : (2 : Nat) ^ 6 = 64 := rfl; omega⟩ hn
  exact this

theorem pow7 {k : Nat} (hk : k ≤ 7) : (1 : Int) ≤ 2 ^ k ∧ (2 : Int) ^ k ≤ 128 := by
  have e : ((2 : Int) ^ k) = ((2 ^ k : Nat) : Int) := by simp
  have h2 : (2 : Nat) ^ k ≤ 2 ^ 7 := Nat.pow_le_pow_right (by omega) hk
  have h1 : 1 ≤ (2 : Nat) ^ k := Nat.one_le_two_pow
  have : (2 : Nat) ^ 7 = 128 := rfl
  rw [e]
  omega

set_option maxHeartbeats 400000 in
theorem openSet_any (A : Option Addr) (c : Nat) (xs : List Int) (w : World) (hA : IntsAt w A xs) (hl : xs.length ≤ 7) :
    Calls Try.prog 54 #[.slice A xs.length c] w fun e w' => e = .returned (.int .i64 (openS xs)) ∧ w = w' := by
  go_enter Try.func54, Try.ntmps54
  go_wp2_with fail
  go_loopw [3, 8] (fun sv i wr => ∃ (k : Nat) (s : Int), k ≤ xs.length ∧ i = .int .i64 k ∧ sv = .int .i64 s ∧ 0 ≤ s ∧ Hid (s < 2 ^ k) ∧ Hid (openS xs = s + openGo k (xs.drop k)) ∧ w = wr) (fun _ i _ => xs.length - (intOf i).toNat)
  case atStart => exact ⟨0, 0, Nat.zero_le _, rfl, rfl, by omega, hide (by simp), hide (by simp [openS]), rfl⟩
  case round =>
    obtain ⟨k, s, hk, rfl, rfl, hs0, HS, HG, rfl⟩ := hrel
    by_cases hlt : k < xs.length
    · obtain ⟨b, off, rfl, hbl, hc1⟩ := hA k xs[k] (List.getElem?_eq_getElem hlt)
      have HD : Hid (xs.drop k = xs[k] :: xs.drop (k + 1)) := hide (List.drop_eq_getElem_cons hlt)
      generalize xs[k] = p at *
      have hz : (0 : Int) ≤ k := by omega
      have hz2 : (k : Int) < xs.length := by omega
      have h2 : Hid ((2 : Int) ^ (k + 1) = 2 ^ k + 2 ^ k ∧ (1 : Int) ≤ 2 ^ k) := hide ⟨by rw [Int.pow_succ]; omega, (pow7 (by omega)).1⟩
      cases hp : (p != 0) with
      | false =>
        have H3 : Hid (openS xs = s + openGo (k + 1) (xs.drop (k + 1))) := hide (by rw [HG.out, HD.out, openGo, hp]; simp)
        go_wp2_with fail
        go_roundw
        case rel => exact ⟨k + 1, s, hlt, by go_num, rfl, hs0, hide (by have := h2.out; have := HS.out; omega), H3, trivial⟩
        case measure => simp [intOf]; omega
      | true =>
        have H3 : Hid (openS xs = (s + 2 ^ k) + openGo (k + 1) (xs.drop (k + 1))) := hide (by rw [HG.out, HD.out, openGo, hp, if_pos rfl]; omega)
        have HO := hide (or_bit hs0 HS.out (show k < 7 by omega))
        go_wp2_with fail
        go_roundw
        case rel => exact ⟨k + 1, s + 2 ^ k, hlt, by go_num, by rw [HO.out], by have := h2.out; omega, hide (by have := h2.out; have := HS.out; omega), H3, trivial⟩
        case measure => simp [intOf]; omega
    · have H3 : Hid (openS xs = s) := hide (by rw [HG.out, List.drop_of_length_le (by omega), openGo]; omega)
      go_wp2_with fail
      go_ret
      exact ⟨by rw [H3.out]; rfl, rfl⟩

theorem box3_keep {wa w' : World} {g : Nat} {u v z : Value} (h : wa.cell? ⟨g, 0, none⟩ = some u ∧ wa.cell? ⟨g, 1, none⟩ = some v ∧ wa.cell? ⟨g, 2, none⟩ = some z ∧ g < wa.heap.size) (hB : Below wa.heap.size wa w') :
    w'.cell? ⟨g, 0, none⟩ = some u ∧ w'.cell? ⟨g, 1, none⟩ = some v ∧ w'.cell? ⟨g, 2, none⟩ = some z ∧ g < w'.heap.size :=
  ⟨(hB.cell h.2.2.2).trans h.1, (hB.cell h.2.2.2).trans h.2.1, (hB.cell h.2.2.2).trans h.2.2.1, Nat.lt_of_lt_of_le h.2.2.2 hB.size⟩

end Go.Proofs.Ytgagfaajilbmmaa
