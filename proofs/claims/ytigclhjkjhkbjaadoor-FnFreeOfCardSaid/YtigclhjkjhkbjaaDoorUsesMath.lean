/- What is used by what is used is used: the set that usesGo makes is closed.
   Conditions: valid items. -/
import Derived.Test.YtigclhjkjhkbjaaDoorUses
namespace Go.Proofs.YtigclhjkjhkbjaaDoor
open Go.RowKit

theorem hasB_join {a b : Int} (ha : 0 ≤ a) (hb : 0 ≤ b) (k : Nat) : hasB (orI a b) k = (hasB a k || hasB b k) := by
  rw [hasB_iff k ha, hasB_iff k hb, hasB_iff k (by unfold orI; omega)]
  unfold orI
  rw [Int.toNat_natCast, Nat.testBit_or]

theorem hasB_pow (i k : Nat) : hasB (2 ^ i) k = decide (i = k) := by
  rw [hasB_iff k (Int.pow_nonneg (by omega)), show ((2 : Int) ^ i) = ((2 ^ i : Nat) : Int) by simp, Int.toNat_natCast, Nat.testBit_two_pow]

theorem orI_nn {a b : Int} : 0 ≤ orI a b := by unfold orI; omega

/-- S is a set that has, with each item of the list, its parts. -/
def Closed (l : List Item) (S : Int) : Prop := ∀ k, k < l.length → hasB S k = true → ∀ p ∈ (l.getD k instItem.default).parts, hasB S p.of.toNat = true
def SubB (s S : Int) : Prop := ∀ k, hasB s k = true → hasB S k = true

theorem partsSet_has : ∀ (ps : List Part) (s : Int) (k : Nat), 0 ≤ s → (hasB (partsSet s ps) k = true ↔ hasB s k = true ∨ ∃ p ∈ ps, p.of.toNat = k)
  | [], s, k, _ => by simp [partsSet]
  | q :: r, s, k, h => by
    rw [partsSet, partsSet_has r _ k orI_nn, hasB_join h (Int.pow_nonneg (by omega)), hasB_pow]
    simp only [Bool.or_eq_true, decide_eq_true_eq, List.mem_cons]
    constructor
    · rintro ((h1 | h1) | ⟨p, hp, h1⟩)
      · exact .inl h1
      · exact .inr ⟨q, .inl rfl, h1⟩
      · exact .inr ⟨p, .inr hp, h1⟩
    · rintro (h1 | ⟨p, rfl | hp, h1⟩)
      · exact .inl (.inl h1)
      · exact .inl (.inr h1)
      · exact .inr ⟨p, hp, h1⟩
theorem partsSet_nn : ∀ (ps : List Part) (s : Int), 0 ≤ s → 0 ≤ partsSet s ps
  | [], _, h => h
  | _ :: r, _, _ => partsSet_nn r _ orI_nn
theorem stepSet_nn {x : Item} {k : Nat} {s : Int} (h : 0 ≤ s) : 0 ≤ stepSet x k s := by
  unfold stepSet
  split
  · exact partsSet_nn _ _ h
  · exact h
theorem usesGo_nn (l : List Item) : ∀ (m : Nat) (s : Int), 0 ≤ s → 0 ≤ usesGo l m s
  | 0, _, h => h
  | m + 1, _, h => usesGo_nn l m _ (stepSet_nn h)

theorem stepSet_sup {x : Item} {k : Nat} {s : Int} (h : 0 ≤ s) : SubB s (stepSet x k s) := fun j hj => by
  unfold stepSet
  split
  · exact (partsSet_has _ _ _ h).2 (.inl hj)
  · exact hj
theorem usesGo_sup (l : List Item) : ∀ (m : Nat) (s : Int), 0 ≤ s → SubB s (usesGo l m s)
  | 0, _, _ => fun _ h => h
  | m + 1, _, h => fun j hj => usesGo_sup l m _ (stepSet_nn h) j (stepSet_sup h j hj)

/-- What the steps below m can add is below m. -/
theorem usesGo_top {l : List Item} (hl : ∀ (i : Nat) (x : Item), l[i]? = some x → ∀ p ∈ x.parts, 0 ≤ p.of ∧ p.of < (i : Int)) : ∀ (m : Nat) (s : Int), 0 ≤ s → ∀ j, m ≤ j + 1 → hasB (usesGo l m s) j = hasB s j
  | 0, _, _, _, _ => rfl
  | m + 1, s, h, j, hj => by
    show hasB (usesGo l m _) j = _
    rw [usesGo_top hl m _ (stepSet_nn h) j (by omega)]
    unfold stepSet
    split
    · have hh := partsSet_has (l.getD m instItem.default).parts s j h
      have hno : ¬ ∃ p ∈ (l.getD m instItem.default).parts, p.of.toNat = j := by
        rintro ⟨p, hp, e⟩
        by_cases hm : m < l.length
        · rw [show l.getD m instItem.default = l[m] by simp [hm]] at hp
          have := hl m _ (List.getElem?_eq_getElem hm) p hp
          omega
        · rw [List.getD_eq_getElem?_getD, List.getElem?_eq_none (Nat.le_of_not_lt hm)] at hp
          have e : ((none : Option Item).getD instItem.default).parts = [] := rfl
          rw [e] at hp
          cases hp
      cases e : hasB s j with
      | true => exact hh.2 (.inl e)
      | false =>
        cases e2 : hasB (partsSet s (l.getD m instItem.default).parts) j with
        | false => rfl
        | true =>
          rcases hh.1 e2 with h1 | h1
          · rw [e] at h1; cases h1
          · exact absurd h1 hno
    · rfl

/-- Of each item below m that is in the final set, the parts are. -/
theorem usesGo_closed {l : List Item} (hl : ∀ (i : Nat) (x : Item), l[i]? = some x → ∀ p ∈ x.parts, 0 ≤ p.of ∧ p.of < (i : Int)) : ∀ (m : Nat) (s : Int), 0 ≤ s → ∀ k, k < m → hasB (usesGo l m s) k = true → ∀ p ∈ (l.getD k instItem.default).parts, hasB (usesGo l m s) p.of.toNat = true
  | 0, _, _, k, hk, _, _, _ => absurd hk (by omega)
  | m + 1, s, h, k, hk, hb, p, hp => by
    by_cases e : k = m
    · subst e
      have h1 : hasB (usesGo l (k + 1) s) k = hasB s k := usesGo_top hl (k + 1) s h k (by omega)
      rw [h1] at hb
      refine usesGo_sup l k _ (stepSet_nn h) _ ?_
      unfold stepSet
      rw [if_pos hb]
      exact (partsSet_has _ _ _ h).2 (.inr ⟨p, hp, rfl⟩)
    · exact usesGo_closed hl m _ (stepSet_nn h) k (by omega) hb p hp

/-- A closed set that has the seed has all. -/
theorem usesGo_least {l : List Item} {S : Int} (hS : ∀ k, k < l.length → hasB S k = true → ∀ p ∈ (l.getD k instItem.default).parts, hasB S p.of.toNat = true) : ∀ (m : Nat) (s : Int), m ≤ l.length → 0 ≤ s → SubB s S → SubB (usesGo l m s) S
  | 0, _, _, _, h => h
  | m + 1, s, hm, h0, h => by
    refine usesGo_least hS m _ (by omega) (stepSet_nn h0) (fun j hj => ?_)
    unfold stepSet at hj
    split at hj
    · rename_i hb
      rcases (partsSet_has _ _ _ h0).1 hj with h1 | ⟨p, hp, e⟩
      · exact h j h1
      · rw [← e]
        exact hS m (by omega) (h m hb) p hp
    · exact h j hj

theorem itemsOk_of {l : List Item} (h : itemsOk l = true) (i : Nat) (x : Item) (hx : l[i]? = some x) : ∀ p ∈ x.parts, 0 ≤ p.of ∧ p.of < (i : Int) := fun p hp => by
  have := (itemsOk_at h hx).2.2.2.2.2.2 p hp
  omega

theorem usesL_eq {l : List Item} {n : Nat} (h : itemsOk l = true) (hn : n < l.length) : usesL l n = usesGo l (n + 1) (2 ^ n) := by
  unfold usesL
  rw [if_pos]
  · rfl
  · simp only [Bool.and_eq_true, inR_iff]
    exact ⟨h, by omega, by omega⟩

theorem usesL_parts {l : List Item} {n : Int} (h : ¬ usesL l n < 0) : itemsOk l = true ∧ 0 ≤ n ∧ n < l.length := by
  unfold usesL at h
  split at h
  · rename_i hc
    simp only [Bool.and_eq_true, inR_iff] at hc
    exact ⟨hc.1, hc.2.1, by omega⟩
  · omega

/-- The three properties that the law of UsesOf asks. -/
theorem uses_has {l : List Item} {n : Nat} (h : itemsOk l = true) (hn : n < l.length) : hasB (usesL l n) n = true := by
  rw [usesL_eq h hn]
  exact usesGo_sup l _ _ (Int.pow_nonneg (by omega)) _ (by rw [hasB_pow]; simp)
theorem uses_above {l : List Item} {n k : Nat} (h : itemsOk l = true) (hn : n < l.length) (hk : n < k) : hasB (usesL l n) k = false := by
  rw [usesL_eq h hn, usesGo_top (itemsOk_of h) _ _ (Int.pow_nonneg (by omega)) k (by omega), hasB_pow]
  exact decide_eq_false (by omega)
theorem uses_trans {l : List Item} {n k j : Nat} (h : itemsOk l = true) (hn : n < l.length) (hk : k < l.length) (h1 : hasB (usesL l n) k = true) (h2 : hasB (usesL l k) j = true) : hasB (usesL l n) j = true := by
  have hc : ∀ i, i < l.length → hasB (usesL l n) i = true → ∀ p ∈ (l.getD i instItem.default).parts, hasB (usesL l n) p.of.toNat = true := fun i hi hb p hp => by
    rcases Nat.lt_or_ge n i with hlt | hge
    · rw [uses_above h hn hlt] at hb; cases hb
    · rw [usesL_eq h hn] at hb ⊢
      exact usesGo_closed (itemsOk_of h) _ _ (Int.pow_nonneg (by omega)) i (by omega) hb p hp
  rw [usesL_eq h hk] at h2
  refine usesGo_least hc (k + 1) _ (by omega) (Int.pow_nonneg (by omega)) (fun i hi => ?_) j h2
  rw [hasB_pow] at hi
  rw [← of_decide_eq_true hi]
  exact h1
end Go.Proofs.YtigclhjkjhkbjaaDoor
