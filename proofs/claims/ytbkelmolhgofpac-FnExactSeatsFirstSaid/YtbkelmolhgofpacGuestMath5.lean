/- GuestMath5: who sits at a table, as sets; plain mathematics.
   Conditions: sets are below 64. -/
import Derived.Test.YtbkelmolhgofpacGuestMath4
namespace Go.Proofs.Ytbkelmolhgofpac
open Go.RowKit

/-- Who of the first guests sits at a table. -/
def sitTo (q : List Int) : Nat → Int → Int
  | 0, _ => 0
  | a + 1, t => if tableOf (q.getD a 0) (seatsTo q a) = t then orI (sitTo q a t) (2 ^ a) else sitTo q a t

theorem sitTo_range (q : List Int) : ∀ (a : Nat) (t : Int), a ≤ 6 → 0 ≤ sitTo q a t ∧ sitTo q a t < 64
  | 0, _, _ => by simp [sitTo]
  | a + 1, t, h => by
    have ih := sitTo_range q a t (by omega)
    have hp := pow_range a (by omega)
    have ho := orI_lt ih.2 hp.2
    unfold sitTo
    split
    · exact ho
    · exact ih

theorem seatsTo_getD_lt (q : List Int) {a b : Nat} (h : b < a) : (seatsTo q (a + 1)).getD b 0 = (seatsTo q a).getD b 0 := by
  rw [seatsTo, List.getD_eq_getElem?_getD, List.getElem?_append_left (by rw [seatsTo_len]; exact h), ← List.getD_eq_getElem?_getD]
theorem seatsTo_getD_eq (q : List Int) (a : Nat) : (seatsTo q (a + 1)).getD a 0 = tableOf (q.getD a 0) (seatsTo q a) := by
  rw [seatsTo, List.getD_eq_getElem?_getD, List.getElem?_append_right (by rw [seatsTo_len]; exact Nat.le_refl _), seatsTo_len]
  simp

theorem sitTo_has (q : List Int) {b : Nat} (hb : b < 6) : ∀ (a : Nat) (t : Int), a ≤ 6 → (hasB (sitTo q a t) b = true ↔ b < a ∧ (seatsTo q a).getD b 0 = t)
  | 0, t, _ => by
    have : hasB (sitTo q 0 t) b = false := by unfold sitTo hasB; simp
    rw [this]
    simp
  | a + 1, t, h => by
    have ih := sitTo_has q hb a t (by omega)
    have hr := sitTo_range q a t (by omega)
    have hp := pow_range a (by omega)
    unfold sitTo
    rcases Nat.lt_trichotomy b a with e | e | e
    · rw [seatsTo_getD_lt q e]
      split
      · rw [hasB_orI _ hr.1 (by omega), hasB_pow (by omega) hb, show (a == b) = false from by rw [beq_eq_false_iff_ne]; omega, Bool.or_false, ih]
        omega
      · rw [ih]
        omega
    · subst e
      rw [seatsTo_getD_eq]
      split
      · rename_i h2
        rw [hasB_orI _ hr.1 (by omega), hasB_pow hb hb, h2]
        simp
      · rename_i h2
        rw [ih]
        constructor
        · intro ⟨h3, _⟩; omega
        · intro ⟨_, h3⟩; exact absurd h3 h2
    · split
      · rw [hasB_orI _ hr.1 (by omega), hasB_pow (by omega) hb, show (a == b) = false from by rw [beq_eq_false_iff_ne]; omega, Bool.or_false, ih]
        constructor
        · intro ⟨h3, _⟩; omega
        · intro ⟨h3, _⟩; omega
      · rw [ih]
        constructor
        · intro ⟨h3, _⟩; omega
        · intro ⟨h3, _⟩; omega

theorem clash_sit (q : List Int) {a : Nat} (ha : a ≤ 6) {u : Int} (h0 : 0 ≤ u) (h1 : u < 64) (t : Int) : (meetI (sitTo q a t) u == 0) = !clash u (seatsTo q a) t := by
  have hr := sitTo_range q a t ha
  rw [Bool.eq_iff_iff, meet_zero hr.1 hr.2 h0 h1, Bool.not_eq_true']
  constructor
  · intro h
    cases hc : clash u (seatsTo q a) t with
    | false => rfl
    | true =>
      obtain ⟨b, hb, h2, h3⟩ := clash_iff.1 hc
      rw [seatsTo_len] at hb
      exact absurd ⟨(sitTo_has q (by omega) a t ha).2 ⟨hb, h2⟩, h3⟩ (h b (by omega))
  · intro h k hk ⟨h2, h3⟩
    obtain ⟨h4, h5⟩ := (sitTo_has q hk a t ha).1 h2
    have : clash u (seatsTo q a) t = true := clash_iff.2 ⟨k, by rw [seatsTo_len]; exact h4, h5, h3⟩
    rw [h] at this
    exact absurd this (by decide)

theorem tab_self {L : List Int} {n : Nat} (h : L.length = n) : tab n (fun j => L.getD j 0) = L := by
  apply List.ext_getElem?
  intro i
  by_cases hi : i < n
  · rw [tab_at hi]
    simp [h, hi]
  · rw [List.getElem?_eq_none (by rw [tab_len]; omega), List.getElem?_eq_none (by omega)]
end Go.Proofs.Ytbkelmolhgofpac
