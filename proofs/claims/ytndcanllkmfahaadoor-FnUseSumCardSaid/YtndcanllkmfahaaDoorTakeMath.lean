/- What TakeFirst takes: each share within what can be used, and the shares and the rest make the want; what TakeDo leaves; no use is above a bound.
   Conditions: none. -/
import Derived.Test.YtndcanllkmfahaaDoorUseG
namespace Go.Proofs.YtndcanllkmfahaaDoor
open Go.RowKit

theorem sumL_append (a b : List Int) : sumL (a ++ b) = sumL a + sumL b := by
  induction a with
  | nil => simp [sumL]
  | cons x r ih => simp only [List.cons_append, sumL, ih]; omega

theorem tsum_succ (n : Nat) (f : Nat → Int) : sumL (tab (n + 1) f) = sumL (tab n f) + f n := by
  rw [← tab_snoc, sumL_append]
  simp [sumL]

theorem tsum_zero (n : Nat) : sumL (tab n (fun _ => 0)) = 0 := by
  induction n with
  | zero => rfl
  | succ n ih => rw [tsum_succ, ih]; rfl

theorem tsum_upd {k : Nat} (f : Nat → Int) (v : Int) : ∀ n, sumL (tab n (fun j => if j = k then v else f j)) = sumL (tab n f) + (if k < n then v - f k else 0)
  | 0 => rfl
  | n + 1 => by
    rw [tsum_succ, tsum_succ, tsum_upd f v n]
    by_cases h2 : n = k
    · subst h2
      simp
      omega
    · have h3 : (k < n + 1) ↔ (k < n) := by omega
      simp only [h2, h3, if_false]
      omega

theorem tfK_out {l : List Lot} {day last : Int} : ∀ (k : Nat) (s : (Nat → Int) × Int) (j : Nat), k ≤ j → (tfK l day last k s).1 j = s.1 j
  | 0, _, _, _ => rfl
  | k + 1, s, j, h => by
    unfold tfK
    split
    · show (if j = k then _ else (tfK l day last k s).1 j) = s.1 j
      rw [if_neg (by omega)]
      exact tfK_out k s j (by omega)
    · exact tfK_out k s j (by omega)

theorem tfK_other {l : List Lot} {day last : Int} : ∀ (k : Nat) (s : (Nat → Int) × Int) (j : Nat), (l.getD j nilLot).last ≠ last → (tfK l day last k s).1 j = s.1 j
  | 0, _, _, _ => rfl
  | k + 1, s, j, h => by
    unfold tfK
    split
    · rename_i hl
      have hne : ¬ j = k := fun e => h (by rw [e]; exact hl)
      show (if j = k then _ else (tfK l day last k s).1 j) = s.1 j
      rw [if_neg hne]
      exact tfK_other k s j h
    · exact tfK_other k s j h

theorem tfK_sum {l : List Lot} {day last : Int} (n : Nat) (s : (Nat → Int) × Int) (h0 : ∀ j, (l.getD j nilLot).last = last → s.1 j = 0) : ∀ k, k ≤ n → sumL (tab n (tfK l day last k s).1) + (tfK l day last k s).2 = sumL (tab n s.1) + s.2
  | 0, _ => rfl
  | k + 1, h => by
    have ih := tfK_sum (day := day) n s h0 k (by omega)
    unfold tfK
    split
    · rename_i hl
      have ho := tfK_out (l := l) (day := day) (last := last) k s k (Nat.le_refl _)
      rw [h0 k hl] at ho
      show sumL (tab n (fun j => if j = k then min (tfK l day last k s).2 (usab (l.getD k nilLot) day) else (tfK l day last k s).1 j)) + ((tfK l day last k s).2 - min (tfK l day last k s).2 (usab (l.getD k nilLot) day)) = _
      rw [tsum_upd, if_pos (by omega), ho]
      omega
    · exact ih

theorem tfL_zero {l : List Lot} {day want : Int} : ∀ (m j : Nat), (m : Int) ≤ (l.getD j nilLot).last → (tfL l day want m).1 j = 0
  | 0, _, _ => rfl
  | m + 1, j, h => by
    show (tfK l day m l.length (tfL l day want m)).1 j = 0
    rw [tfK_other _ _ _ (by omega)]
    exact tfL_zero m j (by omega)

/-- The shares and what is still wanted make the want. -/
theorem tfL_sum {l : List Lot} {day want : Int} : ∀ m : Nat, sumL (tab l.length (tfL l day want m).1) + (tfL l day want m).2 = want
  | 0 => by
    show sumL (tab l.length (fun _ => 0)) + want = want
    rw [tsum_zero]
    omega
  | m + 1 => by
    show sumL (tab l.length (tfK l day m l.length (tfL l day want m)).1) + (tfK l day m l.length (tfL l day want m)).2 = want
    rw [tfK_sum l.length (tfL l day want m) (fun j hj => tfL_zero m j (by omega)) l.length (Nat.le_refl _)]
    exact tfL_sum m

theorem tfK_share {l : List Lot} (h : lotsOk l = true) (day last : Int) : ∀ (k : Nat) (s : (Nat → Int) × Int), 0 ≤ s.2 → s.2 ≤ 50 → (∀ j, 0 ≤ s.1 j ∧ s.1 j ≤ usab (l.getD j nilLot) day) → ∀ j, 0 ≤ (tfK l day last k s).1 j ∧ (tfK l day last k s).1 j ≤ usab (l.getD j nilLot) day
  | 0, _, _, _, hs => hs
  | k + 1, s, h0, h1, hs => by
    intro j
    have ih := tfK_share h day last k s h0 h1 hs j
    have hr := tfK_range h day last k s h0 h1
    unfold tfK
    split
    · show 0 ≤ (if j = k then min (tfK l day last k s).2 (usab (l.getD k nilLot) day) else (tfK l day last k s).1 j) ∧ (if j = k then min (tfK l day last k s).2 (usab (l.getD k nilLot) day) else (tfK l day last k s).1 j) ≤ usab (l.getD j nilLot) day
      by_cases e : j = k
      · subst e
        have hu := usab_range (getD_ok h j) day
        rw [if_pos rfl]
        omega
      · rw [if_neg e]
        exact ih
    · exact ih

theorem tfL_share {l : List Lot} (h : lotsOk l = true) (day want : Int) (h0 : 0 ≤ want) (h1 : want ≤ 50) : ∀ (m : Nat) (j : Nat), 0 ≤ (tfL l day want m).1 j ∧ (tfL l day want m).1 j ≤ usab (l.getD j nilLot) day
  | 0, j => by
    show (0 : Int) ≤ 0 ∧ (0 : Int) ≤ usab (l.getD j nilLot) day
    exact ⟨Int.le_refl _, (usab_range (getD_ok h j) day).1⟩
  | m + 1, j => tfK_share h day m _ _ (tfL_range h day want h0 h1 m).1 (tfL_range h day want h0 h1 m).2 (tfL_share h day want h0 h1 m) j

theorem takeGo_of {day : Int} : ∀ (l : List Lot) (t : List Int), (∀ (k : Nat) x u, l[k]? = some x → t[k]? = some u → 0 ≤ u ∧ u ≤ usab x day) → takeGo day l t = true
  | [], _, _ => by simp [takeGo]
  | _ :: _, [], _ => by simp [takeGo]
  | x :: r, u :: s, h => by
    unfold takeGo
    simp only [Bool.and_eq_true]
    exact ⟨inR_iff.2 (h 0 x u rfl rfl), takeGo_of r s (fun k y v hy hv => h (k + 1) y v (by simpa using hy) (by simpa using hv))⟩

theorem takeFirst_is {l : List Lot} {day q : Int} (h : lotsOk l = true) (hq : inR q 0 50 = true) : takeFirstL l day q = tab l.length (tfL l day q 6).1 := by
  unfold takeFirstL
  rw [if_pos (by simp [h, hq])]

theorem getD_some {l : List Lot} {k : Nat} {x : Lot} (h : l[k]? = some x) : l.getD k nilLot = x := by
  rw [List.getD_eq_getElem?_getD, h]
  rfl

theorem takeFirst_ok {l : List Lot} {day q : Int} (h : lotsOk l = true) (hq : inR q 0 50 = true) : takeOkL l day (takeFirstL l day q) = true ∧ sumL (takeFirstL l day q) ≤ q := by
  have hw := inR_iff.1 hq
  rw [takeFirst_is h hq]
  refine ⟨?_, ?_⟩
  · unfold takeOkL
    simp only [Bool.and_eq_true, decide_eq_true_eq]
    refine ⟨h, tab_len _ _, takeGo_of _ _ ?_⟩
    intro k x u hx hu
    have hk : k < l.length := by
      rcases Nat.lt_or_ge k l.length with a | a
      · exact a
      · rw [List.getElem?_eq_none a] at hx
        cases hx
    rw [tab_at hk] at hu
    obtain rfl : (tfL l day q 6).1 k = u := Option.some.inj hu
    have := tfL_share h day q hw.1 hw.2 6 k
    rwa [getD_some hx] at this
  · have := tfL_sum (l := l) (day := day) (want := q) 6
    have := (tfL_range h day q hw.1 hw.2 6).1
    omega

theorem usab_most {x : Lot} (h : 0 ≤ x.many) (day : Int) : usab x day ≤ x.many := by
  unfold usab
  split <;> omega

theorem takeDoGo_units {day D : Int} (hD : D ≤ day) : ∀ {l : List Lot} {t : List Int}, t.length = l.length → takeGo day l t = true → unitsGo D (takeDoGo l t) = unitsGo D l - sumL t
  | [], [], _, _ => by simp [takeDoGo, unitsGo, sumL]
  | [], _ :: _, h, _ => by simp at h
  | _ :: _, [], h, _ => by simp at h
  | x :: r, u :: s, h, hg => by
    unfold takeGo at hg
    simp only [Bool.and_eq_true, inR_iff] at hg
    have ih := takeDoGo_units hD (l := r) (t := s) (by simpa using h) hg.2
    have h1 := hg.1
    have e1 : usab ⟨x.many - u, x.last⟩ D = if x.last < D then 0 else x.many - u := rfl
    have e2 : usab x D = if x.last < D then 0 else x.many := rfl
    have e3 : usab x day = if x.last < day then 0 else x.many := rfl
    rw [e3] at h1
    simp only [takeDoGo, unitsGo, sumL]
    rw [ih, e1, e2]
    by_cases a : x.last < D
    · rw [if_pos a, if_pos a]
      rw [if_pos (by omega)] at h1
      omega
    · rw [if_neg a, if_neg a]
      omega

theorem takeDoGo_less {day D : Int} : ∀ {l : List Lot} {t : List Int}, t.length = l.length → takeGo day l t = true → unitsGo D (takeDoGo l t) ≤ unitsGo D l
  | [], [], _, _ => by simp [takeDoGo, unitsGo]
  | [], _ :: _, h, _ => by simp at h
  | _ :: _, [], h, _ => by simp at h
  | x :: r, u :: s, h, hg => by
    unfold takeGo at hg
    simp only [Bool.and_eq_true, inR_iff] at hg
    have ih := takeDoGo_less (D := D) (l := r) (t := s) (by simpa using h) hg.2
    have h1 := hg.1
    have e1 : usab ⟨x.many - u, x.last⟩ D = if x.last < D then 0 else x.many - u := rfl
    have e2 : usab x D = if x.last < D then 0 else x.many := rfl
    simp only [takeDoGo, unitsGo]
    rw [e1, e2]
    by_cases a : x.last < D
    · rw [if_pos a, if_pos a]
      omega
    · rw [if_neg a, if_neg a]
      omega

theorem takeDoGo_all {day : Int} : ∀ {l : List Lot} {t : List Int}, takeGo day l t = true → (∀ x ∈ l, 0 ≤ x.many ∧ x.many ≤ 9 ∧ 0 ≤ x.last ∧ x.last ≤ 5) → ∀ y ∈ takeDoGo l t, lotOk y = true
  | [], _, _, _, y, hy => by simp [takeDoGo] at hy
  | _ :: _, [], _, _, y, hy => by simp [takeDoGo] at hy
  | x :: r, u :: s, hg, h, y, hy => by
    unfold takeGo at hg
    simp only [Bool.and_eq_true, inR_iff] at hg
    rw [takeDoGo] at hy
    rcases List.mem_cons.1 hy with rfl | hy
    · have hx := h x (by simp)
      have hu := usab_most hx.1 day
      unfold lotOk
      simp only [Bool.and_eq_true, inR_iff]
      omega
    · exact takeDoGo_all hg.2 (fun z hz => h z (by simp [hz])) y hy

theorem takeDo_is {l : List Lot} {t : List Int} {day : Int} (h : takeOkL l day t = true) : takeDoL l day t = takeDoGo l t := by
  unfold takeDoL
  rw [if_pos h]

theorem takeDo_ok {l : List Lot} {t : List Int} {day : Int} (h : takeOkL l day t = true) : lotsOk (takeDoL l day t) = true := by
  obtain ⟨h1, h2, h3⟩ := takeOkL_parts h
  rw [takeDo_is h]
  unfold lotsOk
  simp only [Bool.and_eq_true, decide_eq_true_eq, List.all_eq_true]
  refine ⟨by rw [takeDoGo_len _ _ h2]; exact lotsOk_len h1, takeDoGo_all h3 (fun x hx => lotsOk_at h1 hx)⟩

theorem use_units {D : Int} : ∀ (wants : List Int) (s : Int) (l : List Lot), lotsOk l = true → (∀ q ∈ wants, 0 ≤ q ∧ q ≤ 50) → D ≤ s → sumL ((useGo s l wants).map sumL) ≤ unitsGo D l
  | [], s, l, h, _, _ => by
    have := unitsGo_range (day := D) (fun x hx => lotsOk_at h hx)
    show (0 : Int) ≤ unitsGo D l
    exact this.1
  | q :: r, s, l, h, hw, hD => by
    obtain ⟨hk, _⟩ := takeFirst_ok (day := s) h (inR_iff.2 (hw q (by simp)))
    obtain ⟨_, h2, h3⟩ := takeOkL_parts hk
    have e := takeDo_is hk
    have ih := use_units r (s + 1) _ (takeDo_ok hk) (fun x hx => hw x (by simp [hx])) (by omega : D ≤ s + 1)
    have hu := takeDoGo_units hD h2 h3
    rw [e] at ih
    simp only [useGo, List.map_cons, sumL, e]
    omega

/-- No use by TakeFirst is above the bound of a day. -/
theorem use_bound {D : Int} : ∀ (wants : List Int) (s : Int) (l : List Lot), lotsOk l = true → (∀ q ∈ wants, 0 ≤ q ∧ q ≤ 50) → sumL ((useGo s l wants).map sumL) ≤ sumL (wants.take (D - s).toNat) + unitsGo D l
  | [], s, l, h, _ => by
    have := unitsGo_range (day := D) (fun x hx => lotsOk_at h hx)
    rw [List.take_nil]
    show (0 : Int) ≤ 0 + unitsGo D l
    omega
  | q :: r, s, l, h, hw => by
    by_cases hD : D ≤ s
    · have := use_units (q :: r) s l h hw hD
      rw [show (D - s).toNat = 0 from by omega, List.take_zero]
      show _ ≤ (0 : Int) + unitsGo D l
      omega
    · obtain ⟨hk, hs⟩ := takeFirst_ok (day := s) h (inR_iff.2 (hw q (by simp)))
      obtain ⟨_, h2, h3⟩ := takeOkL_parts hk
      have e := takeDo_is hk
      have ih := use_bound (D := D) r (s + 1) _ (takeDo_ok hk) (fun x hx => hw x (by simp [hx]))
      have hu := takeDoGo_less (D := D) h2 h3
      rw [e] at ih
      rw [show (D - s).toNat = (D - (s + 1)).toNat + 1 from by omega]
      simp only [useGo, List.map_cons, sumL, e, List.take_succ_cons]
      omega

theorem useMost_le {l : List Lot} {wants : List Int} {day : Int} (h : stockOk l wants = true) (hd : inR day 0 6 = true) : useMostL l wants ≤ useBoundL l wants day := by
  obtain ⟨h1, h2⟩ := stockOk_parts h
  have a := rows_range (useFirstL_len (l := l) (wants := wants)) useFirstL_rows
  have b := use_bound (D := day) wants 0 l h1 (wantsOk_at h2).2
  rw [Int.sub_zero] at b
  unfold useMostL useBoundL
  rw [if_pos h, if_pos (by simp [h, hd]), a.1]
  unfold useFirstL unitsL
  rw [if_pos h, if_pos h1]
  exact b

theorem bound_first {l : List Lot} {wants : List Int} (h : stockOk l wants = true) : useBoundL l wants 0 = unitsL l 0 := by
  unfold useBoundL
  rw [if_pos (by simp only [h, Bool.true_and]; exact inR_iff.2 (by omega))]
  simp [sumL]

theorem units_after {l : List Lot} (h : ∀ x ∈ l, x.last ≤ 5) : unitsGo 6 l = 0 := by
  induction l with
  | nil => rfl
  | cons x r ih =>
    have hx := h x (by simp)
    unfold unitsGo
    rw [ih (fun y hy => h y (by simp [hy]))]
    unfold usab
    rw [if_pos (by omega)]
    rfl

theorem bound_last {l : List Lot} {wants : List Int} (h : stockOk l wants = true) : useBoundL l wants 6 = sumW wants := by
  obtain ⟨h1, h2⟩ := stockOk_parts h
  unfold useBoundL
  rw [if_pos (by simp only [h, Bool.true_and]; exact inR_iff.2 (by omega)), (wants_sum h2).1]
  rw [List.take_of_length_le (by show wants.length ≤ 6; exact (wantsOk_at h2).1)]
  unfold unitsL
  rw [if_pos h1, units_after (fun x hx => (lotsOk_at h1 hx).2.2.2)]
  omega
end Go.Proofs.YtndcanllkmfahaaDoor
