/- UnitL: what a unit of each item costs, as fractions in lowest terms, and how great they get.
   Conditions: the items and the prices are valid. -/
import Derived.Test.YtjegebnnlomcpaaDoorCost
import Derived.Test.YtjegebnnlomcpaaDoorUnitMath
namespace Go.Proofs.YtjegebnnlomcpaaDoor
open Go.RowKit

def partsN (cs : List (Nat × Nat)) (ps : List Part) : List (Nat × Nat × Nat) := ps.map (fun p => (p.many.toNat, cs.getD p.of.toNat (0, 1)))
def unitOf (cs : List (Nat × Nat)) (x : Item) (p : Int) : Nat × Nat := if 0 < x.yield then lowN (sumI (0, 1) (partsN cs x.parts)).1 ((sumI (0, 1) (partsN cs x.parts)).2 * x.yield.toNat) else (p.toNat, 1)
/-- What a unit of each of the first items costs. -/
def unitsN (l : List Item) (ps : List Int) : Nat → List (Nat × Nat)
  | 0 => []
  | k + 1 => unitsN l ps k ++ [unitOf (unitsN l ps k) (l.getD k default) (ps.getD k 0)]
theorem unitsN_len (l : List Item) (ps : List Int) : ∀ k, (unitsN l ps k).length = k
  | 0 => rfl
  | k + 1 => by rw [unitsN, List.length_append, unitsN_len l ps k]; rfl
/-- What is known of the costs so far: C bounds the cost of a unit, T is divided by each denominator. -/
def UnitsOk (C T : Nat) (cs : List (Nat × Nat)) : Prop := ∀ c ∈ cs, 0 < c.2 ∧ c.2 ∣ T ∧ c.1 ≤ C * c.2
theorem UnitsOk.mono {C D T U : Nat} {cs : List (Nat × Nat)} (h : UnitsOk C T cs) (hC : C ≤ D) (hT : T ∣ U) : UnitsOk D U cs := fun c hc => by
  obtain ⟨h1, h2, h3⟩ := h c hc
  exact ⟨h1, Nat.dvd_trans h2 hT, Nat.le_trans h3 (Nat.mul_le_mul_right _ hC)⟩
theorem parts_ok {C T : Nat} {cs : List (Nat × Nat)} (h : UnitsOk C T cs) {ps : List Part} (hp : ∀ p ∈ ps, 0 ≤ p.of ∧ p.of < (cs.length : Int) ∧ 1 ≤ p.many ∧ p.many ≤ 6) : ∀ q ∈ partsN cs ps, 0 < q.2.2 ∧ q.2.2 ∣ T ∧ q.1 ≤ 6 ∧ q.2.1 ≤ C * q.2.2 := fun q hq => by
  obtain ⟨p, hp', rfl⟩ := List.mem_map.1 hq
  obtain ⟨h1, h2, h3, h4⟩ := hp p hp'
  have hl : p.of.toNat < cs.length := by omega
  have hc := h _ (List.getElem_mem hl)
  have e : cs.getD p.of.toNat (0, 1) = cs[p.of.toNat] := by simp [hl]
  show 0 < (cs.getD p.of.toNat (0, 1)).2 ∧ (cs.getD p.of.toNat (0, 1)).2 ∣ T ∧ p.many.toNat ≤ 6 ∧ (cs.getD p.of.toNat (0, 1)).1 ≤ C * (cs.getD p.of.toNat (0, 1)).2
  rw [e]
  exact ⟨hc.1, hc.2.1, by omega, hc.2.2⟩
/-- One item more. -/
theorem unitOf_ok {C T : Nat} {cs : List (Nat × Nat)} (h : UnitsOk C T cs) (hC : 20 ≤ C) {x : Item} {p : Int} (hp0 : 0 ≤ p) (hp1 : p ≤ 20) (hy : x.yield ≤ 6) (hl : x.parts.length ≤ 3)
    (hp : ∀ q ∈ x.parts, 0 ≤ q.of ∧ q.of < (cs.length : Int) ∧ 1 ≤ q.many ∧ q.many ≤ 6) : UnitsOk (18 * C) (T * (if 0 < x.yield then x.yield.toNat else 1)) (cs ++ [unitOf cs x p]) := fun c hc => by
  rcases List.mem_append.1 hc with hc | hc
  · exact (h.mono (by omega) ⟨_, rfl⟩) c hc
  · obtain rfl : c = unitOf cs x p := by simpa using hc
    have hpo := parts_ok h hp
    unfold unitOf
    by_cases hy0 : 0 < x.yield
    · rw [if_pos hy0, if_pos hy0]
      have hyn : 0 < x.yield.toNat := by omega
      have h1 := share_dvd (T := T) hyn (partsN cs x.parts) (fun q hq => ⟨(hpo q hq).1, (hpo q hq).2.1⟩)
      have h0 := (sumI_dvd (T := T) (partsN cs x.parts) (0, 1) (fun q hq => ⟨(hpo q hq).1, (hpo q hq).2.1⟩) (by omega) ⟨T, by simp⟩).1
      have h2 := share_rng (C := C) (M := 6) hyn (partsN cs x.parts) (fun q hq => ⟨(hpo q hq).1, (hpo q hq).2.2⟩) h0
      refine ⟨h1.1, h1.2, Nat.le_trans h2 (Nat.mul_le_mul_right _ ?_)⟩
      have e : (partsN cs x.parts).length ≤ 3 := by unfold partsN; rw [List.length_map]; exact hl
      calc 6 * C * (partsN cs x.parts).length ≤ 6 * C * 3 := Nat.mul_le_mul_left _ e
        _ = 18 * C := by omega
    · rw [if_neg hy0, if_neg hy0]
      exact ⟨by show 0 < 1; omega, ⟨T * 1, by show T * 1 = 1 * (T * 1); omega⟩, by show p.toNat ≤ 18 * C * 1; omega⟩

theorem units_ok {l : List Item} {ps : List Int} (hI : itemsOk l = true) (hP : rangeOk 20 ps = true) (hl : ps.length = l.length) : ∀ k, k + 1 ≤ l.length → ∃ T, 0 < T ∧ T ≤ 6 ^ k ∧ UnitsOk (20 * 18 ^ k) T (unitsN l ps (k + 1))
  | 0, h => by
    have hx := List.getElem?_eq_getElem (show 0 < l.length by omega)
    have hp := List.getElem?_eq_getElem (show 0 < ps.length by omega)
    obtain ⟨-, -, hy0, -, -, hyp, hpo⟩ := itemsOk_at hI hx
    have hr := rangeOk_at hP hp
    have hn : l[0].parts = [] := by
      cases e : l[0].parts with
      | nil => rfl
      | cons q r =>
        have := hpo q (by rw [e]; simp)
        omega
    have hyz := hyp.2 hn
    refine ⟨1, by omega, by simp, fun c hc => ?_⟩
    have e1 : l.getD 0 default = l[0] := by rw [List.getD_eq_getElem?_getD, hx]; rfl
    have e2 : ps.getD 0 0 = ps[0] := by rw [List.getD_eq_getElem?_getD, hp]; rfl
    obtain rfl : c = unitOf [] l[0] ps[0] := by
      rw [unitsN, e1, e2] at hc
      simpa [unitsN] using hc
    unfold unitOf
    rw [if_neg (by omega)]
    exact ⟨by show 0 < 1; omega, ⟨1, rfl⟩, by show (ps[0]).toNat ≤ 20 * 18 ^ 0 * 1; omega⟩
  | k + 1, h => by
    obtain ⟨T, hT0, hT1, hU⟩ := units_ok hI hP hl k (by omega)
    have hx := List.getElem?_eq_getElem (show k + 1 < l.length by omega)
    have hp := List.getElem?_eq_getElem (show k + 1 < ps.length by omega)
    obtain ⟨-, -, hy0, hy1, hpl, -, hpo⟩ := itemsOk_at hI hx
    have hr := rangeOk_at hP hp
    have e1 : l.getD (k + 1) default = l[k + 1] := by rw [List.getD_eq_getElem?_getD, hx]; rfl
    have e2 : ps.getD (k + 1) 0 = ps[k + 1] := by rw [List.getD_eq_getElem?_getD, hp]; rfl
    have h1 := unitOf_ok hU (show 20 ≤ 20 * 18 ^ k from Nat.le_mul_of_pos_right 20 (Nat.pow_pos (by omega))) hr.1 hr.2 hy1 hpl (fun q hq => by rw [unitsN_len]; exact hpo q hq)
    refine ⟨T * (if 0 < (l[k + 1]).yield then (l[k + 1]).yield.toNat else 1), Nat.mul_pos hT0 (by split <;> omega), ?_, ?_⟩
    · rw [Nat.pow_succ]
      exact Nat.mul_le_mul hT1 (by split <;> omega)
    · rw [unitsN, e1, e2]
      exact h1.mono (Nat.le_of_eq (by rw [Nat.pow_succ]; omega)) ⟨1, by simp⟩
end Go.Proofs.YtjegebnnlomcpaaDoor
