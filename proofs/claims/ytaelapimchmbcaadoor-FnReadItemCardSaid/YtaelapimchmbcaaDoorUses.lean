/- Contracts of UsesOf, of the program and of the reference model: both compute one function of the list and the index.
   Conditions: the list and each item's parts have at most 1048576 elements. -/
import Derived.Test.YtaelapimchmbcaaDoorBits
namespace Go.Proofs.YtaelapimchmbcaaDoor
open Go.RowKit

instance instPart : Inhabited Part := ⟨⟨0, 0⟩⟩
instance instItem : Inhabited Item := ⟨⟨0, [], 0⟩⟩

def partsSet : Int → List Part → Int
  | s, [] => s
  | s, p :: r => partsSet (orI s (2 ^ p.of.toNat)) r

def stepSet (x : Item) (k : Nat) (s : Int) : Int := if hasB s k = true then partsSet s x.parts else s

def usesGo (l : List Item) : Nat → Int → Int
  | 0, s => s
  | k + 1, s => usesGo l k (stepSet (l.getD k instItem.default) k s)

def usesL (l : List Item) (index : Int) : Int :=
  if (itemsOk l && inR index 0 ((l.length : Int) - 1)) = true then usesGo l (index.toNat + 1) (2 ^ index.toNat) else -1

theorem partsGo_mem {index : Int} : ∀ {ps : List Part} {least : Int}, partsGo index least ps = true → 0 ≤ least → ∀ p ∈ ps, 0 ≤ p.of ∧ p.of < index ∧ 1 ≤ p.many ∧ p.many ≤ 6
  | [], _, _, _, p, hp => by simp at hp
  | q :: r, least, h, h0, p, hp => by
    unfold partsGo at h
    simp only [Bool.and_eq_true, inR_iff] at h
    obtain ⟨⟨a, b⟩, ⟨c, d⟩, e⟩ := h
    rcases List.mem_cons.1 hp with rfl | hp
    · omega
    · exact partsGo_mem e (by omega) p hp

theorem itemsGo_at {l : List Item} : ∀ {k : Int}, itemsGo k l = true → ∀ (i : Nat) (x : Item), l[i]? = some x → itemOk x (k + i) = true := by
  induction l with
  | nil => intro k _ i x hx; simp at hx
  | cons y r ih =>
    intro k h i x hx
    unfold itemsGo at h
    simp only [Bool.and_eq_true] at h
    cases i with
    | zero =>
      obtain rfl : y = x := by simpa using hx
      simpa using h.1
    | succ i =>
      have := ih h.2 i x (by simpa using hx)
      rw [show k + ((i + 1 : Nat) : Int) = k + 1 + i from by omega]
      exact this

theorem itemsOk_len {l : List Item} (h : itemsOk l = true) : l.length ≤ 6 := by
  unfold itemsOk at h
  simp only [Bool.and_eq_true, decide_eq_true_eq] at h
  exact h.1

theorem itemsOk_at {l : List Item} (h : itemsOk l = true) {i : Nat} {x : Item} (hx : l[i]? = some x) :
    0 ≤ x.marks ∧ x.marks ≤ 31 ∧ 0 ≤ x.yield ∧ x.yield ≤ 6 ∧ x.parts.length ≤ 3 ∧ (x.yield = 0 ↔ x.parts = []) ∧ ∀ p ∈ x.parts, 0 ≤ p.of ∧ p.of < i ∧ 1 ≤ p.many ∧ p.many ≤ 6 := by
  unfold itemsOk at h
  simp only [Bool.and_eq_true] at h
  have h1 := itemsGo_at h.2 i x hx
  rw [Int.zero_add] at h1
  unfold itemOk at h1
  simp only [Bool.and_eq_true, inR_iff] at h1
  obtain ⟨⟨m0, m1⟩, h2⟩ := h1
  split at h2
  · rename_i hy
    have hn : x.parts = [] := by simpa using h2
    refine ⟨m0, m1, by omega, by omega, by simp [hn], ⟨fun _ => hn, fun _ => hy⟩, fun p hp => by simp [hn] at hp⟩
  · rename_i hy
    unfold partsFitL at h2
    simp only [Bool.and_eq_true, inR_iff] at h2
    obtain ⟨⟨y0, y1⟩, ⟨n0, n1⟩, h3⟩ := h2
    refine ⟨m0, m1, by omega, by omega, by omega, ⟨fun e => absurd e hy, fun e => by rw [e] at n0; simp at n0⟩, partsGo_mem h3 (by omega)⟩

theorem pow_range : ∀ n : Nat, n < 6 → (1 : Int) ≤ 2 ^ n ∧ (2 : Int) ^ n < 64 := by
  intro n hn
  match n, hn with
  | 0, _ => decide
  | 1, _ => decide
  | 2, _ => decide
  | 3, _ => decide
  | 4, _ => decide
  | 5, _ => decide

theorem wrap_pow (n : Nat) (hn : n < 6) : wrap64 (2 ^ n) = 2 ^ n := IntWalk.wrap64_in _ (by have := pow_range n hn; omega)

theorem hasB_iff {s : Int} (k : Nat) (h0 : 0 ≤ s) : hasB s k = s.toNat.testBit k := by
  obtain ⟨n, rfl⟩ := Int.eq_ofNat_of_zero_le h0
  unfold hasB
  rw [Int.toNat_natCast, Nat.testBit_eq_decide_div_mod_eq, Bool.eq_iff_iff]
  have e : ((n : Int) / 2 ^ k) = ((n / 2 ^ k : Nat) : Int) := by rw [Int.natCast_ediv]; simp
  rw [e]
  simp only [beq_iff_eq, decide_eq_true_eq]
  omega

theorem hasB_or {s t : Int} {k : Nat} (h0 : 0 ≤ s) (h : hasB s k = true) : hasB (orI s t) k = true := by
  rw [hasB_iff k h0] at h
  rw [hasB_iff k (by unfold orI; omega)]
  unfold orI
  rw [Int.toNat_natCast, Nat.testBit_or, h, Bool.true_or]

theorem partsSet_range : ∀ (ps : List Part) (s : Int), 0 ≤ s → s < 64 → (∀ p ∈ ps, 0 ≤ p.of ∧ p.of < 6) → 0 ≤ partsSet s ps ∧ partsSet s ps < 64
  | [], s, h0, h1, _ => ⟨h0, h1⟩
  | p :: r, s, h0, h1, hp => by
    have hq := hp p (by simp)
    have := pow_range p.of.toNat (by omega)
    have ho := orI_lt h1 this.2
    exact partsSet_range r _ ho.1 ho.2 (fun q hq => hp q (by simp [hq]))

end Go.Proofs.YtaelapimchmbcaaDoor
