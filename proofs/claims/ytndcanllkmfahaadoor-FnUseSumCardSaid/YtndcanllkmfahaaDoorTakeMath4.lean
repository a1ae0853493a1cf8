/- What UseFirst serves is the least bound of all days; a unit more in a lot, or wanted on a day, makes one more at most; fresh units make up for what lacks.
   Conditions: none beyond each statement's own. -/
import Derived.Test.YtndcanllkmfahaaDoorTakeMath2
namespace Go.Proofs.YtndcanllkmfahaaDoor
open Go.RowKit

theorem sumL_nonneg' {l : List Int} (h : ∀ x ∈ l, 0 ≤ x) : 0 ≤ sumL l := by
  induction l with
  | nil => exact Int.le_refl _
  | cons x r ih =>
    have := ih (fun y hy => h y (by simp [hy]))
    have := h x (by simp)
    simp only [sumL]
    omega
/-- What is taken of no lot that lasts so long leaves all of it. -/
theorem units_same {D : Int} : ∀ {l : List Lot} {t : List Int}, t.length = l.length → (∀ (k : Nat) x u, l[k]? = some x → t[k]? = some u → D ≤ x.last → u = 0) → unitsGo D (takeDoGo l t) = unitsGo D l
  | [], [], _, _ => rfl
  | [], _ :: _, h, _ => by simp at h
  | _ :: _, [], h, _ => by simp at h
  | x :: r, u :: s, h, hz => by
    have ih := units_same (D := D) (l := r) (t := s) (by simpa using h) (fun k y v hy hv => hz (k + 1) y v (by simpa using hy) (by simpa using hv))
    simp only [takeDoGo, unitsGo, ih]
    have e1 : usab ⟨x.many - u, x.last⟩ D = if x.last < D then 0 else x.many - u := rfl
    have e2 : usab x D = if x.last < D then 0 else x.many := rfl
    rw [e1, e2]
    by_cases a : x.last < D
    · rw [if_pos a, if_pos a]
    · have := hz 0 x u rfl rfl (by omega)
      rw [if_neg a, if_neg a, this]
      omega
/-- Where nothing is left of what spoils before D, what can be used on the day s is what lasts to D. -/
theorem units_gone {s D : Int} (hsD : s ≤ D) : ∀ {l : List Lot} {t : List Int}, t.length = l.length → (∀ (k : Nat) x u, l[k]? = some x → t[k]? = some u → x.last < D → u = usab x s) → unitsGo D (takeDoGo l t) = unitsGo s (takeDoGo l t)
  | [], [], _, _ => rfl
  | [], _ :: _, h, _ => by simp at h
  | _ :: _, [], h, _ => by simp at h
  | x :: r, u :: w, h, hz => by
    have ih := units_gone hsD (l := r) (t := w) (by simpa using h) (fun k y v hy hv => hz (k + 1) y v (by simpa using hy) (by simpa using hv))
    simp only [takeDoGo, unitsGo, ih]
    have e1 : usab ⟨x.many - u, x.last⟩ D = if x.last < D then 0 else x.many - u := rfl
    have e2 : usab ⟨x.many - u, x.last⟩ s = if x.last < s then 0 else x.many - u := rfl
    have e3 : usab x s = if x.last < s then 0 else x.many := rfl
    rw [e1, e2]
    by_cases a : x.last < D
    · have := hz 0 x u rfl rfl a
      rw [e3] at this
      rw [if_pos a]
      by_cases b : x.last < s
      · rw [if_pos b]
      · rw [if_neg b] at this ⊢
        omega
    · rw [if_neg a, if_neg (by omega)]
theorem getD_at {l : List Lot} {k : Nat} {x : Lot} (h : l[k]? = some x) : l.getD k nilLot = x ∧ k < l.length := by
  obtain ⟨hk, e⟩ := List.getElem?_eq_some_iff.1 h
  exact ⟨by rw [List.getD_eq_getElem?_getD, h]; rfl, hk⟩
/-- What spoils first goes first: on a later day D either nothing less is there, or just what can be used at all. -/
theorem edf {l : List Lot} (h : lotsOk l = true) {s D q : Int} (hq : inR q 0 50 = true) (hsD : s ≤ D) :
    unitsGo D (takeDoL l s (takeFirstL l s q)) = unitsGo D l ∨ unitsGo D (takeDoL l s (takeFirstL l s q)) = unitsGo s (takeDoL l s (takeFirstL l s q)) := by
  have hk := (takeFirst_ok (day := s) h hq).1
  obtain ⟨_, h2, _⟩ := takeOkL_parts hk
  have hw := inR_iff.1 hq
  rw [takeDo_is hk]
  by_cases ha : ∃ a : Nat, a < l.length ∧ D ≤ (l.getD a nilLot).last ∧ 0 < (tfL l s q 6).1 a
  · right
    obtain ⟨a, ha1, ha2, ha3⟩ := ha
    refine units_gone hsD h2 (fun k x u hx hu hl => ?_)
    obtain ⟨e, hkl⟩ := getD_at hx
    rw [takeFirst_is h hq, tab_at hkl] at hu
    obtain rfl : (tfL l s q 6).1 k = u := Option.some.inj hu
    have := tf_greedy h (day := s) hw.1 hw.2 (a := a) (b := k) hkl ha3 (by rw [e]; omega)
    rwa [e] at this
  · left
    refine units_same h2 (fun k x u hx hu hl => ?_)
    obtain ⟨e, hkl⟩ := getD_at hx
    rw [takeFirst_is h hq, tab_at hkl] at hu
    obtain rfl : (tfL l s q 6).1 k = u := Option.some.inj hu
    have h0 := (tfL_share h s q hw.1 hw.2 6 k).1
    refine Classical.byContradiction fun hn => ha ⟨k, hkl, by rw [e]; exact hl, by omega⟩
theorem usab_less {x : Lot} (h : 0 ≤ x.many) {s D : Int} (hsD : s ≤ D) : usab x D ≤ usab x s := by
  unfold usab
  by_cases a : x.last < D
  · rw [if_pos a]
    split <;> omega
  · rw [if_neg a, if_neg (by omega)]
    exact Int.le_refl _
theorem units_mono {s D : Int} (hsD : s ≤ D) : ∀ {l : List Lot}, (∀ x ∈ l, 0 ≤ x.many) → unitsGo D l ≤ unitsGo s l
  | [], _ => Int.le_refl _
  | x :: r, h => by
    have ih := units_mono hsD (l := r) (fun y hy => h y (by simp [hy]))
    have := usab_less (h x (by simp)) hsD
    simp only [unitsGo]
    omega
/-- UseFirst serves a bound of some day. -/
theorem use_reach : ∀ (wants : List Int) (s : Int) (l : List Lot), lotsOk l = true → (∀ q ∈ wants, 0 ≤ q ∧ q ≤ 50) → s + wants.length ≤ 6 → ∃ D, s ≤ D ∧ D ≤ 6 ∧ sumL ((useGo s l wants).map sumL) = sumL (wants.take (D - s).toNat) + unitsGo D l
  | [], s, l, h, _, hs => ⟨6, by simpa using hs, Int.le_refl _, by
    rw [units_after (fun x hx => (lotsOk_at h hx).2.2.2)]
    simp [useGo, sumL]⟩
  | q :: r, s, l, h, hw, hs => by
    have hq := inR_iff.2 (hw q (by simp))
    obtain ⟨hk, hsq⟩ := takeFirst_ok (day := s) h hq
    obtain ⟨_, h2, h3⟩ := takeOkL_parts hk
    have hsum := takeFirst_sum (day := s) h hq
    have hul : unitsL l s = unitsGo s l := by unfold unitsL; rw [if_pos h]
    rw [hul] at hsum
    have hlo := takeDo_ok hk
    have hlm : ∀ x ∈ takeDoL l s (takeFirstL l s q), 0 ≤ x.many := fun x hx => (lotsOk_at hlo hx).1
    obtain ⟨D, hD1, hD2, hD3⟩ := use_reach r (s + 1) _ hlo (fun x hx => hw x (by simp [hx])) (by
      simp only [List.length_cons, Int.natCast_add, Int.natCast_one] at hs
      omega)
    have hun := takeDoGo_units (Int.le_refl s) h2 h3
    rw [← takeDo_is hk] at hun
    have hup := use_units (D := s) (q :: r) s l h hw (Int.le_refl _)
    have hrn : 0 ≤ sumL (r.take (D - (s + 1)).toNat) := sumL_nonneg' (fun x hx => (hw x (by simp [List.mem_of_mem_take hx])).1)
    simp only [useGo, List.map_cons, sumL] at hup ⊢
    have hB : unitsGo D (takeDoL l s (takeFirstL l s q)) = unitsGo s (takeDoL l s (takeFirstL l s q)) → ∃ D, s ≤ D ∧ D ≤ 6 ∧ sumL (takeFirstL l s q) + sumL ((useGo (s + 1) (takeDoL l s (takeFirstL l s q)) r).map sumL) = sumL ((q :: r).take (D - s).toNat) + unitsGo D l := fun e => by
      refine ⟨s, Int.le_refl _, by omega, ?_⟩
      rw [Int.sub_self]
      show _ = (0 : Int) + unitsGo s l
      omega
    rcases edf h (s := s) (D := D) hq (by omega) with e | e
    · by_cases hqq : sumL (takeFirstL l s q) = q
      · refine ⟨D, by omega, hD2, ?_⟩
        rw [show (D - s).toNat = (D - (s + 1)).toNat + 1 from by omega, List.take_succ_cons]
        simp only [sumL]
        omega
      · refine hB ?_
        clear hB
        have hz : unitsGo s (takeDoL l s (takeFirstL l s q)) = 0 := by omega
        have hm := units_mono (s := s) (D := D) (by omega) hlm
        have hp := (unitsGo_range (day := D) (fun x hx => lotsOk_at hlo hx)).1
        omega
    · exact hB e
theorem useMost_reach {l : List Lot} {wants : List Int} (h : stockOk l wants = true) : ∃ D : Int, 0 ≤ D ∧ D ≤ 6 ∧ useMostL l wants = useBoundL l wants D := by
  obtain ⟨h1, h2⟩ := stockOk_parts h
  obtain ⟨D, a, b, c⟩ := use_reach wants 0 l h1 (wantsOk_at h2).2 (by have := (wantsOk_at h2).1; omega)
  refine ⟨D, a, b, ?_⟩
  have r := rows_range (useFirstL_len (l := l) (wants := wants)) useFirstL_rows
  unfold useMostL useBoundL
  rw [if_pos h, if_pos (by rw [h, inR_iff.2 ⟨a, b⟩]; rfl), r.1]
  unfold useFirstL unitsL
  rw [if_pos h, if_pos h1, c, Int.sub_zero]

theorem units_set {D : Int} : ∀ {l : List Lot} {k : Nat} {x : Lot}, l[k]? = some x → unitsGo D (l.set k ⟨x.many + 1, x.last⟩) = unitsGo D l + (if x.last < D then 0 else 1)
  | [], k, x, h => by simp at h
  | y :: r, 0, x, h => by
    obtain rfl : y = x := by simpa using h
    simp only [List.set_cons_zero, unitsGo]
    have e1 : usab ⟨y.many + 1, y.last⟩ D = if y.last < D then 0 else y.many + 1 := rfl
    have e2 : usab y D = if y.last < D then 0 else y.many := rfl
    rw [e1, e2]
    by_cases a : y.last < D
    · simp only [if_pos a]; omega
    · simp only [if_neg a]; omega
  | y :: r, k + 1, x, h => by
    have ih := units_set (D := D) (l := r) (k := k) (x := x) (by simpa using h)
    simp only [List.set_cons_succ, unitsGo, ih]
    omega
theorem bound_is {l : List Lot} {wants : List Int} {D : Int} (h : stockOk l wants = true) (h0 : 0 ≤ D) (h1 : D ≤ 6) : useBoundL l wants D = sumL (wants.take D.toNat) + unitsGo D l := by
  unfold useBoundL unitsL
  rw [if_pos (by rw [h, inR_iff.2 ⟨h0, h1⟩]; rfl), if_pos (stockOk_parts h).1]
/-- Two stocks whose bounds differ by nothing or one: so do what they serve. -/
theorem most_near {l l' : List Lot} {ws ws' : List Int} (h : stockOk l ws = true) (h' : stockOk l' ws' = true) (hb : ∀ D : Int, 0 ≤ D → D ≤ 6 → useBoundL l ws D ≤ useBoundL l' ws' D ∧ useBoundL l' ws' D ≤ useBoundL l ws D + 1) : useMostL l' ws' = useMostL l ws ∨ useMostL l' ws' = useMostL l ws + 1 := by
  obtain ⟨D, a, b, c⟩ := useMost_reach h
  obtain ⟨D', a', b', c'⟩ := useMost_reach h'
  have e1 := useMost_le h (day := D') (inR_iff.2 ⟨a', b'⟩)
  have e2 := useMost_le h' (day := D) (inR_iff.2 ⟨a, b⟩)
  have e3 := hb D a b
  have e4 := hb D' a' b'
  omega
theorem lotsOk_set {l : List Lot} {k : Nat} {y : Lot} (h : lotsOk l = true) (hy : lotOk y = true) : lotsOk (l.set k y) = true := by
  have hl := lotsOk_len h
  unfold lotsOk at *
  simp only [Bool.and_eq_true, decide_eq_true_eq, List.all_eq_true] at *
  refine ⟨by simpa using hl, fun z hz => ?_⟩
  rcases List.mem_or_eq_of_mem_set hz with hz | rfl
  · exact h.2 z hz
  · exact hy
/-- One unit more in a lot: as much is served, or one more. -/
theorem most_more {l : List Lot} {ws : List Int} {k : Nat} {x : Lot} (h : stockOk l ws = true) (hx : l[k]? = some x) (hm : x.many + 1 ≤ 9) : useMostL (l.set k ⟨x.many + 1, x.last⟩) ws = useMostL l ws ∨ useMostL (l.set k ⟨x.many + 1, x.last⟩) ws = useMostL l ws + 1 := by
  obtain ⟨h1, h2⟩ := stockOk_parts h
  have hxx := lotsOk_at h1 (List.mem_of_getElem? hx)
  have hs' : stockOk (l.set k ⟨x.many + 1, x.last⟩) ws = true := by
    unfold stockOk
    rw [lotsOk_set h1 (by unfold lotOk; simp only [Bool.and_eq_true, inR_iff]; omega), h2]
    rfl
  refine most_near h hs' (fun D h0 h6 => ?_)
  rw [bound_is h h0 h6, bound_is hs' h0 h6, units_set hx]
  split <;> omega
theorem sum_take_set : ∀ {ws : List Int} {m : Nat} {k : Nat} {w : Int}, ws[k]? = some w → sumL ((ws.set k (w + 1)).take m) = sumL (ws.take m) + (if k < m then 1 else 0)
  | [], m, k, w, h => by simp at h
  | y :: r, 0, k, w, h => by simp [sumL]
  | y :: r, m + 1, 0, w, h => by
    obtain rfl : y = w := by simpa using h
    simp [sumL]
    omega
  | y :: r, m + 1, k + 1, w, h => by
    have ih := sum_take_set (ws := r) (m := m) (k := k) (w := w) (by simpa using h)
    simp only [List.set_cons_succ, List.take_succ_cons, sumL, ih]
    by_cases a : k < m
    · rw [if_pos a, if_pos (by omega)]; omega
    · rw [if_neg a, if_neg (by omega)]; omega
/-- One more wanted on a day: as much is served, or one more. -/
theorem most_wanted {l : List Lot} {ws : List Int} {k : Nat} {w : Int} (h : stockOk l ws = true) (hw : ws[k]? = some w) (hm : w + 1 ≤ 50) : stockOk l (ws.set k (w + 1)) = true ∧ (useMostL l (ws.set k (w + 1)) = useMostL l ws ∨ useMostL l (ws.set k (w + 1)) = useMostL l ws + 1) := by
  obtain ⟨h1, h2⟩ := stockOk_parts h
  have hww := (wantsOk_at h2).2 w (List.mem_of_getElem? hw)
  have hs' : stockOk l (ws.set k (w + 1)) = true := by
    unfold stockOk wantsOk rangeOk
    rw [h1, List.length_set, decide_eq_true (wantsOk_at h2).1, Bool.true_and, Bool.true_and, List.all_eq_true]
    intro z hz
    rcases List.mem_or_eq_of_mem_set hz with hz | rfl
    · exact inR_iff.2 ((wantsOk_at h2).2 z hz)
    · exact inR_iff.2 ⟨by omega, hm⟩
  refine ⟨hs', most_near h hs' (fun D h0 h6 => ?_)⟩
  rw [bound_is h h0 h6, bound_is hs' h0 h6, sum_take_set hw]
  split <;> omega
theorem units_app (D : Int) : ∀ (l : List Lot) (y : Lot), unitsGo D (l ++ [y]) = unitsGo D l + usab y D
  | [], y => by simp [unitsGo]
  | x :: r, y => by simp only [List.cons_append, unitsGo, units_app D r y]; omega
theorem stock_sums {l : List Lot} {ws : List Int} (h : stockOk l ws = true) : spoilL l ws + useMostL l ws = unitsL l 0 ∧ lackL l ws + useMostL l ws = sumW ws := by
  unfold spoilL lackL
  rw [if_pos h, if_pos h]
  omega
/-- Fresh units make up for what lacks. -/
theorem lack_fresh {l : List Lot} {ws : List Int} (h : stockOk l ws = true) (hf : lotsOk (l ++ [⟨lackL l ws, 5⟩]) = true) : lackL (l ++ [⟨lackL l ws, 5⟩]) ws = 0 := by
  obtain ⟨h1, h2⟩ := stockOk_parts h
  obtain ⟨x, hx⟩ : ∃ x, lackL l ws = x := ⟨_, rfl⟩
  have hs := (stock_sums h).2
  rw [hx] at hs hf ⊢
  have hs' : stockOk (l ++ [⟨x, 5⟩]) ws = true := by unfold stockOk; rw [hf, h2]; rfl
  have hx0 := (lotsOk_at hf (x := ⟨x, 5⟩) (by simp)).1
  have hx0' : 0 ≤ x := hx0
  have hb6 := bound_last hs'
  have hle := useMost_le hs' (day := 6) (inR_iff.2 ⟨by omega, Int.le_refl _⟩)
  obtain ⟨D, a, b, c⟩ := useMost_reach hs'
  have hge : sumW ws ≤ useMostL (l ++ [⟨x, 5⟩]) ws := by
    rw [c]
    by_cases hD : D = 6
    · rw [hD, hb6]; exact Int.le_refl _
    · have hlow := useMost_le h (day := D) (inR_iff.2 ⟨a, b⟩)
      rw [bound_is h a b] at hlow
      rw [bound_is hs' a b, units_app]
      have : usab ⟨x, 5⟩ D = x := by unfold usab; rw [if_neg (by show ¬ (5 : Int) < D; omega)]
      rw [this]
      omega
  have := (stock_sums hs').2
  omega
end Go.Proofs.YtndcanllkmfahaaDoor
