/- What is owed: together nothing, the other way round, and nothing where each has paid just the share.
   Conditions: none beyond each statement's own. -/
import Derived.Test.YteocmjffjinphaaDoorOwed
import Derived.Test.YteocmjffjinphaaDoorShareMath2
namespace Go.Proofs.YteocmjffjinphaaDoor
open Go.RowKit

theorem owed_sum {xs : List Int} (h : ∀ x ∈ xs, -100000 ≤ x ∧ x ≤ 100000) (hl : xs.length ≤ 100) : sumW xs = sumL xs := by
  unfold sumW
  rw [sumGo_plain xs 0 (-100000) 100000 h (by omega) (by omega) (by omega) (by omega)]
  omega
theorem sumL_neg' : ∀ xs : List Int, sumL (xs.map (fun x => -x)) = -(sumL xs)
  | [] => rfl
  | x :: r => by simp only [List.map_cons, sumL, sumL_neg' r]; omega
theorem owedOk_neg {xs : List Int} (h : ∀ x ∈ xs, -100000 ≤ x ∧ x ≤ 100000) (hl : xs.length ≤ 100) : owedOk (xs.map (fun x => -x)) = owedOk xs := by
  have e1 : owedIn (xs.map (fun x => -x)) = owedIn xs := by
    rw [Bool.eq_iff_iff]
    unfold owedIn
    simp only [List.all_eq_true, List.mem_map, inR_iff]
    constructor
    · intro hh x hx
      have := hh (-x) ⟨x, hx, rfl⟩
      omega
    · rintro hh y ⟨x, hx, rfl⟩
      have := hh x hx
      omega
  have e2 : (sumW (xs.map (fun x => -x)) == 0) = (sumW xs == 0) := by
    rw [owed_sum h hl, owed_sum (fun y hy => by
      obtain ⟨x, hx, rfl⟩ := List.mem_map.1 hy
      have := h x hx
      omega) (by rw [List.length_map]; exact hl), sumL_neg', Bool.eq_iff_iff]
    simp
  unfold owedOk
  rw [e1, e2, List.length_map]
theorem owedOk_more {x : Int} {r : List Int} (h : owedOk (x :: r) = true) : owedOk ((x + 1) :: r) = false := by
  cases h2 : owedOk ((x + 1) :: r) with
  | false => rfl
  | true =>
    have f : ∀ {ys : List Int}, owedOk ys = true → sumL ys = 0 := fun {ys} h => by
      have h7 := owedOk_len h
      have e := owed_sum (fun y hy => by have := owedIn_at (owedOk_in h) hy; omega) (show ys.length ≤ 100 by omega)
      unfold owedOk at h
      simp only [Bool.and_eq_true, beq_iff_eq] at h
      omega
    have a := f h
    have b := f h2
    simp only [sumL] at a b
    omega

theorem zip_sum : ∀ {ps qs : List Int}, ps.length = qs.length → (∀ p ∈ ps, 0 ≤ p ∧ p ≤ 9999) → (∀ q ∈ qs, 0 ≤ q ∧ q ≤ 9999) → sumL (List.zipWith subW ps qs) = sumL ps - sumL qs ∧ ∀ z ∈ List.zipWith subW ps qs, -9999 ≤ z ∧ z ≤ 9999
  | [], [], _, _, _ => by simp [sumL]
  | p :: r, q :: t, hl, hp, hq => by
    have ih := zip_sum (ps := r) (qs := t) (by simpa using hl) (fun x hx => hp x (by simp [hx])) (fun x hx => hq x (by simp [hx]))
    have a := hp p (by simp)
    have b := hq q (by simp)
    have e : subW p q = p - q := IntWalk.wrap64_in _ (by omega)
    simp only [List.zipWith_cons_cons, sumL]
    refine ⟨by rw [ih.1, e]; omega, fun z hz => ?_⟩
    rcases List.mem_cons.1 hz with rfl | hz
    · rw [e]; omega
    · exact ih.2 z hz
theorem zip_self : ∀ (ps : List Int), List.zipWith subW ps ps = tab ps.length (fun _ => 0)
  | [] => rfl
  | p :: r => by
    have ih := zip_self r
    rw [List.zipWith_cons_cons, ih]
    apply List.ext_getElem?
    intro i
    have e : subW p p = 0 := by unfold subW; rw [Int.sub_self]; exact IntWalk.wrap64_in _ (by omega)
    cases i with
    | zero => simp [e, tab]
    | succ i =>
      simp only [List.getElem?_cons_succ]
      by_cases hi : i < r.length
      · rw [tab_at hi, tab_at (by simpa using hi)]
      · rw [List.getElem?_eq_none (by rw [tab_len]; omega), List.getElem?_eq_none (by rw [tab_len]; simp; omega)]

/-- What the law says, where something is told at all. -/
structure OwedSaid (xs ps : List Int) : Prop where
  ok : owedOk (owedOfL xs ps) = true
  none : owedOfL xs (shareOfL xs (sumW ps)) = tab xs.length (fun _ => 0)
  len : (shareOfL xs (sumW ps)).length = xs.length
  n7 : xs.length ≤ 7
theorem owed_said {xs ps : List Int} (h : 0 < (owedOfL xs ps).length) : OwedSaid xs ps := by
  unfold owedOfL at h
  split at h
  · rename_i hv
    have hv2 := hv
    simp only [Bool.and_eq_true] at hv
    have hp := hv.2
    unfold paidOk at hp
    simp only [Bool.and_eq_true, decide_eq_true_eq] at hp
    have hq : shareOkL xs (sumW ps) = true := by
      cases hs : shareOkL xs (sumW ps) with
      | true => rfl
      | false =>
        exfalso
        have : shareOfL xs (sumW ps) = [] := by unfold shareOfL; rw [if_neg (by rw [hs]; simp)]
        rw [this] at h
        simp at h
    have hS := share_said (ShOk.of hq)
    have hF : shareOfL xs (sumW ps) = bumpAll (partsL xs (sumW ps)) ((gfL (remsL xs (sumW ps))).take (leftL xs (sumW ps)).toNat) := by
      unfold shareOfL
      rw [if_pos hq]
    rw [← hF] at hS
    have h7 := (sharesOk_len hv.1).2
    have hpr : ∀ p ∈ ps, 0 ≤ p ∧ p ≤ 9999 := fun p hp' => by
      obtain ⟨i, hi⟩ := List.getElem?_of_mem hp'
      exact rangeOk_at hp.2 hi
    have hlen : ps.length = (shareOfL xs (sumW ps)).length := by rw [hS.len]; omega
    have hz := zip_sum hlen hpr hS.rng
    have hfs : sumW (shareOfL xs (sumW ps)) = sumW ps := by
      rw [sumW_plain hS.rng (by omega) (by rw [hS.len]; omega), hS.sum]
    have hO : owedOfL xs ps = List.zipWith subW ps (shareOfL xs (sumW ps)) := by unfold owedOfL; rw [if_pos hv2]
    refine ⟨?_, ?_, hS.len, h7⟩
    · rw [hO]
      have hll : (List.zipWith subW ps (shareOfL xs (sumW ps))).length ≤ 7 := by rw [List.length_zipWith]; omega
      have hin : owedIn (List.zipWith subW ps (shareOfL xs (sumW ps))) = true := by
        unfold owedIn
        rw [List.all_eq_true]
        exact fun z hz' => inR_iff.2 (hz.2 z hz')
      have hsum : sumW (List.zipWith subW ps (shareOfL xs (sumW ps))) = 0 := by
        rw [owed_sum (fun z hz' => by have := hz.2 z hz'; omega) (by omega), hz.1, hS.sum, sumW_plain hpr (by omega) (by omega)]
        omega
      unfold owedOk
      rw [hin, hsum, decide_eq_true hll]
      rfl
    · have hpo : paidOk xs (shareOfL xs (sumW ps)) = true := by
        unfold paidOk
        rw [hS.len, decide_eq_true rfl, Bool.true_and]
        unfold rangeOk
        rw [List.all_eq_true]
        exact fun z hz' => inR_iff.2 (hS.rng z hz')
      unfold owedOfL
      rw [if_pos (by rw [hv.1, hpo]; rfl), hfs, zip_self, hS.len]
  · simp at h
end Go.Proofs.YteocmjffjinphaaDoor
