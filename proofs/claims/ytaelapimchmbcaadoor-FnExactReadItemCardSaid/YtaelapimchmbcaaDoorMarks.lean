/- Contracts of MarksOf, of the program and of the reference model: both compute one function of the list and the index.
   Conditions: the list and each item's parts have at most 1048576 elements. -/
import Derived.Test.YtaelapimchmbcaaDoorUses
namespace Go.Proofs.YtaelapimchmbcaaDoor
open Go.RowKit

def marksFrom (set : Int) : Nat → List Item → Int → Int
  | _, [], m => m
  | k, x :: r, m => marksFrom set (k + 1) r (if hasB set k = true then orI m x.marks else m)

def marksL (l : List Item) (index : Int) : Int := if usesL l index < 0 then -1 else marksFrom (usesL l index) 0 l 0

theorem orI_pow {a b : Int} {m : Nat} (ha : a < 2 ^ m) (hb : b < 2 ^ m) (h0 : 0 ≤ a) (h1 : 0 ≤ b) : 0 ≤ orI a b ∧ orI a b < 2 ^ m := by
  obtain ⟨x, rfl⟩ := Int.eq_ofNat_of_zero_le h0
  obtain ⟨y, rfl⟩ := Int.eq_ofNat_of_zero_le h1
  have e : ((2 : Int) ^ m) = ((2 ^ m : Nat) : Int) := by simp
  rw [e] at ha hb ⊢
  unfold orI
  have := Nat.or_lt_two_pow (n := m) (x := x) (y := y) (by omega) (by omega)
  simp only [Int.toNat_natCast]
  omega

theorem partsSet_pow {m : Nat} : ∀ (ps : List Part) (s : Int), 0 ≤ s → s < 2 ^ m → (∀ p ∈ ps, 0 ≤ p.of ∧ p.of < m) → 0 ≤ partsSet s ps ∧ partsSet s ps < 2 ^ m
  | [], s, h0, h1, _ => ⟨h0, h1⟩
  | p :: r, s, h0, h1, hp => by
    have hq := hp p (by simp)
    have hlt : (2 : Int) ^ p.of.toNat < 2 ^ m := by
      have := Nat.pow_lt_pow_right (a := 2) (by omega) (show p.of.toNat < m by omega)
      have e : ((2 : Int) ^ m) = ((2 ^ m : Nat) : Int) := by simp
      have e' : ((2 : Int) ^ p.of.toNat) = ((2 ^ p.of.toNat : Nat) : Int) := by simp
      rw [e, e']
      omega
    have ho := orI_pow h1 hlt h0 (Int.pow_nonneg (by omega))
    exact partsSet_pow r _ ho.1 ho.2 (fun q hq => hp q (by simp [hq]))

theorem usesGo_pow {l : List Item} (hI : itemsOk l = true) {m : Nat} : ∀ (k : Nat) (s : Int), k ≤ m → k ≤ l.length → 0 ≤ s → s < 2 ^ m → 0 ≤ usesGo l k s ∧ usesGo l k s < 2 ^ m
  | 0, s, _, _, h0, h1 => ⟨h0, h1⟩
  | k + 1, s, hk, hl, h0, h1 => by
    unfold usesGo
    have hx := itemsOk_at hI (List.getElem?_eq_getElem (show k < l.length by omega))
    have e : l.getD k instItem.default = l[k] := by simp [show k < l.length by omega]
    rw [e]
    unfold stepSet
    split
    · have := partsSet_pow (m := m) l[k].parts s h0 h1 (fun p hp => by have := hx.2.2.2.2.2.2 p hp; omega)
      exact usesGo_pow hI k _ (by omega) (by omega) this.1 this.2
    · exact usesGo_pow hI k s (by omega) (by omega) h0 h1

theorem usesL_pow {l : List Item} {index : Int} (h : ¬ usesL l index < 0) : itemsOk l = true ∧ 0 ≤ index ∧ index < l.length ∧ 0 ≤ usesL l index ∧ usesL l index < 2 ^ (index.toNat + 1) := by
  unfold usesL at h ⊢
  split at h
  · rename_i hc
    rw [if_pos hc]
    simp only [Bool.and_eq_true, inR_iff] at hc
    have := usesGo_pow hc.1 (m := index.toNat + 1) (index.toNat + 1) (2 ^ index.toNat) (by omega) (by omega) (Int.pow_nonneg (by omega)) (by
      have := Nat.pow_lt_pow_right (a := 2) (by omega) (show index.toNat < index.toNat + 1 by omega)
      have e : ((2 : Int) ^ (index.toNat + 1)) = ((2 ^ (index.toNat + 1) : Nat) : Int) := by simp
      have e' : ((2 : Int) ^ index.toNat) = ((2 ^ index.toNat : Nat) : Int) := by simp
      rw [e, e']
      omega)
    exact ⟨hc.1, by omega, by omega, this⟩
  · omega

theorem usesL_range {l : List Item} {index : Int} (h : ¬ usesL l index < 0) : 0 ≤ usesL l index ∧ usesL l index < 64 := by
  obtain ⟨hI, h0, h1, h2, h3⟩ := usesL_pow h
  have hl := itemsOk_len hI
  refine ⟨h2, Int.lt_of_lt_of_le h3 ?_⟩
  have := Nat.pow_le_pow_right (n := 2) (by omega) (show index.toNat + 1 ≤ 6 by omega)
  have e : ((2 : Int) ^ (index.toNat + 1)) = ((2 ^ (index.toNat + 1) : Nat) : Int) := by simp
  rw [e]
  omega

theorem usesL_neg {l : List Item} {index : Int} (h : usesL l index < 0) : usesL l index = -1 := by
  by_cases hc : (itemsOk l && inR index 0 ((l.length : Int) - 1)) = true
  · unfold usesL at h ⊢
    rw [if_pos hc] at h ⊢
    simp only [Bool.and_eq_true, inR_iff] at hc
    have := (usesGo_pow hc.1 (m := index.toNat + 1) (index.toNat + 1) (2 ^ index.toNat) (by omega) (by omega) (Int.pow_nonneg (by omega)) (by
      have := Nat.pow_lt_pow_right (a := 2) (by omega) (show index.toNat < index.toNat + 1 by omega)
      have e : ((2 : Int) ^ (index.toNat + 1)) = ((2 ^ (index.toNat + 1) : Nat) : Int) := by simp
      have e' : ((2 : Int) ^ index.toNat) = ((2 ^ index.toNat : Nat) : Int) := by simp
      rw [e, e']
      omega)).1
    omega
  · unfold usesL
    rw [if_neg hc]

theorem hasB_high {s : Int} {m k : Nat} (h0 : 0 ≤ s) (h1 : s < 2 ^ m) (hk : m ≤ k) : hasB s k = false := by
  rw [hasB_iff k h0]
  apply Nat.testBit_lt_two_pow
  have e : ((2 : Int) ^ m) = ((2 ^ m : Nat) : Int) := by simp
  rw [e] at h1
  have := Nat.pow_le_pow_right (n := 2) (by omega) hk
  omega

theorem marksFrom_high {s : Int} {m : Nat} (h0 : 0 ≤ s) (h1 : s < 2 ^ m) : ∀ (l : List Item) (k : Nat) (a : Int), m ≤ k → marksFrom s k l a = a
  | [], _, _, _ => rfl
  | x :: r, k, a, hk => by
    unfold marksFrom
    rw [hasB_high h0 h1 hk, if_neg (by simp)]
    exact marksFrom_high h0 h1 r (k + 1) a (by omega)

end Go.Proofs.YtaelapimchmbcaaDoor
