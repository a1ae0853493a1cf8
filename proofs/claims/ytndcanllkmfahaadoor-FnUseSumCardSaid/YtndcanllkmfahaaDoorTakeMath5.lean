/- However lots are used: at most the bound of every day is served, and at most what UseFirst serves.
   Conditions: none beyond each statement's own. -/
import Derived.Test.YtndcanllkmfahaaDoorTakeMath4
namespace Go.Proofs.YtndcanllkmfahaaDoor
open Go.RowKit

theorem useOk_units {D : Int} : ∀ (wants : List Int) (use : List (List Int)) (s : Int) (l : List Lot), use.length = wants.length → useOkGo s l wants use = true → lotsOk l = true → D ≤ s → sumL (use.map sumL) ≤ unitsGo D l
  | [], [], s, l, _, _, h, _ => by
    have := unitsGo_range (day := D) (fun x hx => lotsOk_at h hx)
    exact this.1
  | [], _ :: _, _, _, hl, _, _, _ => by simp at hl
  | _ :: _, [], _, _, hl, _, _, _ => by simp at hl
  | q :: r, t :: u, s, l, hl, ho, h, hD => by
    unfold useOkGo at ho
    simp only [Bool.and_eq_true, decide_eq_true_eq] at ho
    obtain ⟨_, h2, h3⟩ := takeOkL_parts ho.1
    have ih := useOk_units (D := D) r u (s + 1) _ (by simpa using hl) ho.2.2 (takeDo_ok ho.1) (by omega)
    have hu := takeDoGo_units hD h2 h3
    rw [takeDo_is ho.1] at ih
    simp only [List.map_cons, sumL]
    omega
/-- No way to use the stock is above the bound of a day. -/
theorem useOk_bound {D : Int} : ∀ (wants : List Int) (use : List (List Int)) (s : Int) (l : List Lot), use.length = wants.length → useOkGo s l wants use = true → lotsOk l = true → sumL (use.map sumL) ≤ sumL (wants.take (D - s).toNat) + unitsGo D l
  | [], [], s, l, _, _, h => by
    have := unitsGo_range (day := D) (fun x hx => lotsOk_at h hx)
    rw [List.take_nil]
    show (0 : Int) ≤ 0 + unitsGo D l
    omega
  | [], _ :: _, _, _, hl, _, _ => by simp at hl
  | _ :: _, [], _, _, hl, _, _ => by simp at hl
  | q :: r, t :: u, s, l, hl, ho, h => by
    by_cases hD : D ≤ s
    · have := useOk_units (D := D) (q :: r) (t :: u) s l hl ho h hD
      rw [show (D - s).toNat = 0 from by omega, List.take_zero]
      show _ ≤ (0 : Int) + unitsGo D l
      omega
    · unfold useOkGo at ho
      simp only [Bool.and_eq_true, decide_eq_true_eq] at ho
      obtain ⟨_, h2, h3⟩ := takeOkL_parts ho.1
      have ih := useOk_bound (D := D) r u (s + 1) _ (by simpa using hl) ho.2.2 (takeDo_ok ho.1)
      have hu := takeDoGo_less (D := D) h2 h3
      rw [takeDo_is ho.1] at ih
      rw [show (D - s).toNat = (D - (s + 1)).toNat + 1 from by omega]
      simp only [List.map_cons, sumL, List.take_succ_cons]
      omega
theorem useOk_rows : ∀ (wants : List Int) (use : List (List Int)) (s : Int) (l : List Lot), use.length = wants.length → useOkGo s l wants use = true → lotsOk l = true → ∀ x ∈ use, x.length ≤ 5 ∧ ∀ t ∈ x, 0 ≤ t ∧ t ≤ 9
  | [], [], _, _, _, _, _ => fun x hx => by cases hx
  | [], _ :: _, _, _, hl, _, _ => by simp at hl
  | _ :: _, [], _, _, hl, _, _ => by simp at hl
  | q :: r, t :: u, s, l, hl, ho, h => by
    unfold useOkGo at ho
    simp only [Bool.and_eq_true, decide_eq_true_eq] at ho
    obtain ⟨h1, h2, h3⟩ := takeOkL_parts ho.1
    have ih := useOk_rows r u (s + 1) _ (by simpa using hl) ho.2.2 (takeDo_ok ho.1)
    intro x hx
    rcases List.mem_cons.1 hx with rfl | hx
    · exact ⟨by rw [h2]; exact lotsOk_len h1, takeGo_all h1 h2 h3⟩
    · exact ih x hx
/-- However lots are used: at most the bound of every day, and at most what UseFirst serves. -/
theorem useOk_said {l : List Lot} {wants : List Int} {use : List (List Int)} (h : useOkL l wants use = true) : 0 ≤ useSumW use ∧ useSumW use ≤ 270 ∧ useSumW use ≤ useMostL l wants ∧ ∀ D : Int, 0 ≤ D → D ≤ 6 → useSumW use ≤ useBoundL l wants D := by
  unfold useOkL at h
  simp only [Bool.and_eq_true, decide_eq_true_eq] at h
  obtain ⟨hs, hl, ho⟩ := h
  obtain ⟨h1, h2⟩ := stockOk_parts hs
  have hr := rows_range (by rw [hl]; exact (wantsOk_at h2).1) (useOk_rows wants use 0 l hl ho h1)
  have hb : ∀ D : Int, 0 ≤ D → D ≤ 6 → useSumW use ≤ useBoundL l wants D := fun D a b => by
    rw [bound_is hs a b, hr.1]
    have := useOk_bound (D := D) wants use 0 l hl ho h1
    rwa [Int.sub_zero] at this
  obtain ⟨D, a, b, c⟩ := useMost_reach hs
  exact ⟨by rw [hr.1]; exact hr.2.1, by rw [hr.1]; exact hr.2.2, by rw [c]; exact hb D a b, hb⟩
end Go.Proofs.YtndcanllkmfahaaDoor
