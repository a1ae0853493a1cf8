/- Shares to the last cent: the mathematics.
   Conditions: none beyond each statement's own. -/
import Derived.Test.YteocmjffjinphaaDoorBills
import Derived.Test.YteocmjffjinphaaDoorSortG
namespace Go.Proofs.YteocmjffjinphaaDoor
open Go.RowKit

def partI (s t x : Int) : Int := Int.tdiv (s * x) t
def remI (s t x : Int) : Int := Int.tmod (s * x) t
def partsL (xs : List Int) (s : Int) : List Int := xs.map (partI s (sumL xs))
def remsL (xs : List Int) (s : Int) : List Int := xs.map (remI s (sumL xs))
def leftL (xs : List Int) (s : Int) : Int := s - sumL (partsL xs s)
def bump (ps : List Int) (i : Int) : List Int := ps.set i.toNat (ps.getD i.toNat 0 + 1)
def bumpAll (ps is : List Int) : List Int := is.foldl bump ps
def shareOkL (xs : List Int) (s : Int) : Bool := sharesOk xs && inR s 0 9999
def shareOfL (xs : List Int) (s : Int) : List Int := if shareOkL xs s = true then bumpAll (partsL xs s) ((gfL (remsL xs s)).take (leftL xs s).toNat) else []

theorem partsL_len (xs : List Int) (s : Int) : (partsL xs s).length = xs.length := by simp [partsL]
theorem remsL_len (xs : List Int) (s : Int) : (remsL xs s).length = xs.length := by simp [remsL]
theorem bump_len (ps : List Int) (i : Int) : (bump ps i).length = ps.length := by simp [bump]
theorem bumpAll_len : ∀ (is ps : List Int), (bumpAll ps is).length = ps.length
  | [], ps => rfl
  | i :: r, ps => by
    show (bumpAll (bump ps i) r).length = ps.length
    rw [bumpAll_len r, bump_len]
theorem shareOfL_len (xs : List Int) (s : Int) : (shareOfL xs s).length ≤ xs.length := by
  unfold shareOfL
  split
  · rw [bumpAll_len, partsL_len]; exact Nat.le_refl _
  · simp

/-- What valid arguments give: all the shares together, and each in range. -/
structure ShOk (xs : List Int) (s : Int) : Prop where
  n1 : 1 ≤ xs.length
  n7 : xs.length ≤ 7
  sum : sumW xs = sumL xs
  t1 : 1 ≤ sumL xs
  t140 : sumL xs ≤ 140
  s0 : 0 ≤ s
  s1 : s ≤ 9999
  rng : ∀ x ∈ xs, 0 ≤ x ∧ x ≤ 20
theorem ShOk.of {xs : List Int} {s : Int} (h : shareOkL xs s = true) : ShOk xs s := by
  unfold shareOkL at h
  simp only [Bool.and_eq_true, inR_iff] at h
  have hl := sharesOk_len h.1
  have hr : ∀ x ∈ xs, 0 ≤ x ∧ x ≤ 20 := fun x hx => by
    obtain ⟨i, hi⟩ := List.getElem?_of_mem hx
    exact rangeOk_at (sharesOk_range h.1) hi
  have hw : sumW xs = sumL xs := sumW_plain hr (by omega) (by omega)
  have hs := sumL_range hr
  have hp : 0 < sumW xs := by
    have := h.1
    unfold sharesOk at this
    simp only [Bool.and_eq_true, decide_eq_true_eq] at this
    exact this.2.2
  exact ⟨hl.1, hl.2, hw, by omega, by omega, h.2.1, h.2.2, hr⟩

theorem smul_range {s x : Int} (h0 : 0 ≤ s) (h1 : s ≤ 9999) (h2 : 0 ≤ x) (h3 : x ≤ 20) : 0 ≤ s * x ∧ s * x ≤ 199980 :=
  ⟨Int.mul_nonneg h0 h2, by have := Int.mul_le_mul h1 h3 h2 (by omega); omega⟩
theorem part_rem {s t x : Int} (h0 : 0 ≤ s * x) (ht : 1 ≤ t) : t * partI s t x + remI s t x = s * x ∧ 0 ≤ remI s t x ∧ remI s t x ≤ t - 1 ∧ 0 ≤ partI s t x ∧ partI s t x ≤ s * x := by
  unfold partI remI
  rw [Int.tdiv_eq_ediv_of_nonneg h0, Int.tmod_eq_emod_of_nonneg h0]
  have a := Int.mul_ediv_add_emod (s * x) t
  have b := Int.emod_nonneg (s * x) (show t ≠ 0 by omega)
  have c := Int.emod_lt_of_pos (s * x) (show 0 < t by omega)
  have d := Int.ediv_nonneg h0 (show 0 ≤ t by omega)
  have e := Int.ediv_le_self t h0
  exact ⟨a, b, by omega, d, e⟩
theorem sums_split {s t : Int} (ht : 1 ≤ t) (h0 : 0 ≤ s) : ∀ (ys : List Int), (∀ x ∈ ys, 0 ≤ x) → t * sumL (ys.map (partI s t)) + sumL (ys.map (remI s t)) = s * sumL ys ∧ 0 ≤ sumL (ys.map (remI s t)) ∧ sumL (ys.map (remI s t)) ≤ (t - 1) * (ys.length : Int) ∧ 0 ≤ sumL (ys.map (partI s t))
  | [], _ => by simp [sumL]
  | x :: r, h => by
    have ih := sums_split ht h0 r (fun y hy => h y (by simp [hy]))
    have hx := part_rem (s := s) (t := t) (x := x) (Int.mul_nonneg h0 (h x (by simp))) ht
    simp only [List.map_cons, sumL, List.length_cons, Int.mul_add, Int.natCast_add, Int.natCast_one, Int.mul_one]
    omega
theorem ShOk.left {xs : List Int} {s : Int} (h : ShOk xs s) : 0 ≤ leftL xs s ∧ leftL xs s < xs.length ∧ 0 ≤ sumL (partsL xs s) ∧ sumL (partsL xs s) ≤ s := by
  have ht := h.t1
  have hs := sums_split (s := s) (t := sumL xs) ht h.s0 xs (fun x hx => (h.rng x hx).1)
  have e : sumL xs * leftL xs s = sumL (remsL xs s) := by
    unfold leftL
    rw [Int.mul_sub, Int.mul_comm (sumL xs) s]
    unfold partsL remsL
    omega
  have a : 0 ≤ leftL xs s := by
    rcases Int.lt_or_le (leftL xs s) 0 with c | c
    · have := Int.mul_lt_mul_of_pos_left c (show 0 < sumL xs by omega)
      rw [e, Int.mul_zero] at this
      have := hs.2.1
      unfold remsL at *
      omega
    · exact c
  have b : leftL xs s < xs.length := by
    rcases Int.lt_or_le (leftL xs s) xs.length with c | c
    · exact c
    · have h1 := Int.mul_le_mul_of_nonneg_left c (show 0 ≤ sumL xs by omega)
      rw [e] at h1
      have h2 := hs.2.2.1
      rw [Int.sub_mul, Int.one_mul] at h2
      have h3 := h.n1
      unfold remsL at h1
      omega
  refine ⟨a, b, hs.2.2.2, ?_⟩
  have : leftL xs s = s - sumL (partsL xs s) := rfl
  omega
theorem ShOk.part_range {xs : List Int} {s : Int} (h : ShOk xs s) : ∀ p ∈ partsL xs s, 0 ≤ p ∧ p ≤ 199980 := fun p hp => by
  unfold partsL at hp
  obtain ⟨x, hx, rfl⟩ := List.mem_map.1 hp
  have hr := h.rng x hx
  have hm := smul_range h.s0 h.s1 hr.1 hr.2
  have := part_rem (s := s) (t := sumL xs) (x := x) hm.1 h.t1
  omega
theorem ShOk.rem_range {xs : List Int} {s : Int} (h : ShOk xs s) : ∀ p ∈ remsL xs s, 0 ≤ p ∧ p ≤ 140 := fun p hp => by
  unfold remsL at hp
  obtain ⟨x, hx, rfl⟩ := List.mem_map.1 hp
  have hr := h.rng x hx
  have hm := smul_range h.s0 h.s1 hr.1 hr.2
  have := part_rem (s := s) (t := sumL xs) (x := x) hm.1 h.t1
  have := h.t140
  omega
theorem ShOk.parts_sum {xs : List Int} {s : Int} (h : ShOk xs s) : sumW (partsL xs s) = sumL (partsL xs s) :=
  sumW_plain h.part_range (by omega) (by rw [partsL_len]; have := h.n7; omega)
end Go.Proofs.YteocmjffjinphaaDoor
