/- TakeFirst takes as much as it can, and first what spoils first; what UseFirst gives keeps the rules of a use.
   Conditions: none. -/
import Derived.Test.YtndcanllkmfahaaDoorTakeMath
namespace Go.Proofs.YtndcanllkmfahaaDoor
open Go.RowKit

theorem tsum_le {f g : Nat → Int} : ∀ (n : Nat), (∀ j, j < n → f j ≤ g j) → sumL (tab n f) ≤ sumL (tab n g)
  | 0, _ => Int.le_refl _
  | n + 1, h => by
    have := tsum_le n (fun j hj => h j (by omega))
    have := h n (by omega)
    rw [tsum_succ, tsum_succ]
    omega

theorem units_tab (l : List Lot) (day : Int) : tab l.length (fun j => usab (l.getD j nilLot) day) = l.map (fun x => usab x day) := by
  apply List.ext_getElem?
  intro i
  by_cases hi : i < l.length
  · rw [tab_at hi, List.getElem?_map, List.getElem?_eq_getElem hi, getD_some (List.getElem?_eq_getElem hi)]
    rfl
  · rw [List.getElem?_eq_none (by rw [tab_len]; omega), List.getElem?_eq_none (by rw [List.length_map]; omega)]

theorem units_sum (l : List Lot) (day : Int) : unitsGo day l = sumL (l.map (fun x => usab x day)) := by
  induction l with
  | nil => rfl
  | cons x r ih => simp only [unitsGo, List.map_cons, sumL, ih]

theorem tfK_full {l : List Lot} (h : lotsOk l = true) {day last : Int} : ∀ (k : Nat) (s : (Nat → Int) × Int), 0 < (tfK l day last k s).2 → 0 < s.2 ∧ ∀ j, j < k → (l.getD j nilLot).last = last → (tfK l day last k s).1 j = usab (l.getD j nilLot) day
  | 0, s, h0 => ⟨h0, fun j hj => absurd hj (by omega)⟩
  | k + 1, s, h0 => by
    have hu := usab_range (getD_ok h k) day
    by_cases e : (l.getD k nilLot).last = last
    · have e2 : tfK l day last (k + 1) s = ((fun j => if j = k then min (tfK l day last k s).2 (usab (l.getD k nilLot) day) else (tfK l day last k s).1 j), (tfK l day last k s).2 - min (tfK l day last k s).2 (usab (l.getD k nilLot) day)) := by
        rw [tfK, if_pos e]
      rw [e2] at h0 ⊢
      have h1 : 0 < (tfK l day last k s).2 - min (tfK l day last k s).2 (usab (l.getD k nilLot) day) := h0
      obtain ⟨i1, i2⟩ := tfK_full (day := day) (last := last) h k s (by omega)
      refine ⟨i1, fun j hj hl => ?_⟩
      show (if j = k then min (tfK l day last k s).2 (usab (l.getD k nilLot) day) else (tfK l day last k s).1 j) = _
      by_cases ej : j = k
      · subst ej
        rw [if_pos rfl]
        omega
      · rw [if_neg ej]
        exact i2 j (by omega) hl
    · have e2 : tfK l day last (k + 1) s = tfK l day last k s := by rw [tfK, if_neg e]
      rw [e2] at h0 ⊢
      obtain ⟨i1, i2⟩ := tfK_full h k s h0
      refine ⟨i1, fun j hj hl => i2 j ?_ hl⟩
      have : j ≠ k := fun ej => e (by rw [← ej]; exact hl)
      omega

theorem tfL_full {l : List Lot} (h : lotsOk l = true) {day want : Int} : ∀ (m : Nat), 0 < (tfL l day want m).2 → ∀ j, j < l.length → (l.getD j nilLot).last < m → (tfL l day want m).1 j = usab (l.getD j nilLot) day
  | 0, _, j, _, hl => by
    have := (getD_ok h j).2.2.1
    omega
  | m + 1, h0, j, hj, hl => by
    have h1 : 0 < (tfK l day m l.length (tfL l day want m)).2 := h0
    obtain ⟨i1, i2⟩ := tfK_full h _ _ h1
    show (tfK l day m l.length (tfL l day want m)).1 j = _
    by_cases e : (l.getD j nilLot).last = m
    · exact i2 j hj e
    · rw [tfK_other _ _ _ e]
      exact tfL_full h m i1 j hj (by omega)

theorem tfL_keep {l : List Lot} {day want : Int} {m j : Nat} (hl : (l.getD j nilLot).last < m) : ∀ d, (tfL l day want (m + d)).1 j = (tfL l day want m).1 j
  | 0 => rfl
  | d + 1 => by
    show (tfK l day ((m + d : Nat) : Int) l.length (tfL l day want (m + d))).1 j = _
    rw [tfK_other _ _ _ (by omega)]
    exact tfL_keep hl d

theorem tfK_empty {l : List Lot} (h : lotsOk l = true) {day last : Int} : ∀ (k : Nat) (s : (Nat → Int) × Int), s.2 = 0 → (tfK l day last k s).2 = 0 ∧ ∀ j, s.1 j = 0 → (tfK l day last k s).1 j = 0
  | 0, s, h0 => ⟨h0, fun j hj => hj⟩
  | k + 1, s, h0 => by
    have hu := usab_range (getD_ok h k) day
    obtain ⟨i1, i2⟩ := tfK_empty h (day := day) (last := last) k s h0
    unfold tfK
    split
    · refine ⟨?_, fun j hj => ?_⟩
      · show (tfK l day last k s).2 - min (tfK l day last k s).2 (usab (l.getD k nilLot) day) = 0
        omega
      · show (if j = k then min (tfK l day last k s).2 (usab (l.getD k nilLot) day) else (tfK l day last k s).1 j) = 0
        by_cases ej : j = k
        · rw [if_pos ej]
          omega
        · rw [if_neg ej]
          exact i2 j hj
    · exact ⟨i1, i2⟩

/-- What spoils first is taken first. -/
theorem tf_greedy {l : List Lot} (h : lotsOk l = true) {day q : Int} (h0 : 0 ≤ q) (h1 : q ≤ 50) {a b : Nat} (hb : b < l.length) (hp : 0 < (tfL l day q 6).1 a) (hab : (l.getD b nilLot).last < (l.getD a nilLot).last) : (tfL l day q 6).1 b = usab (l.getD b nilLot) day := by
  have ra := getD_ok h a
  have rb := getD_ok h b
  obtain ⟨m, hm⟩ : ∃ m : Nat, (m : Int) = (l.getD a nilLot).last := ⟨(l.getD a nilLot).last.toNat, by omega⟩
  have hr := tfL_range h day q h0 h1 m
  have ka := tfL_keep (l := l) (day := day) (want := q) (m := m + 1) (j := a) (by omega) (5 - m)
  rw [show m + 1 + (5 - m) = 6 from by omega] at ka
  have kb := tfL_keep (l := l) (day := day) (want := q) (m := m) (j := b) (by omega) (6 - m)
  rw [show m + (6 - m) = 6 from by omega] at kb
  rw [kb]
  refine tfL_full h m ?_ b hb (by omega)
  rcases Int.lt_or_eq_of_le hr.1 with e | e
  · exact e
  · exfalso
    have z := (tfK_empty h (day := day) (last := m) l.length (tfL l day q m) e.symm).2 a (tfL_zero m a (by omega))
    have z2 : (tfL l day q (m + 1)).1 a = 0 := z
    omega

/-- The shares of TakeFirst make what is wanted, or all that can be used. -/
theorem takeFirst_sum {l : List Lot} {day q : Int} (h : lotsOk l = true) (hq : inR q 0 50 = true) : sumL (takeFirstL l day q) = min q (unitsL l day) := by
  have hw := inR_iff.1 hq
  have e : unitsL l day = sumL (tab l.length (fun j => usab (l.getD j nilLot) day)) := by
    unfold unitsL
    rw [if_pos h, units_sum, units_tab]
  rw [takeFirst_is h hq, e]
  have a := tfL_sum (l := l) (day := day) (want := q) 6
  have r := tfL_range h day q hw.1 hw.2 6
  have b := tsum_le (f := (tfL l day q 6).1) (g := fun j => usab (l.getD j nilLot) day) l.length (fun j _ => (tfL_share h day q hw.1 hw.2 6 j).2)
  rcases Int.lt_or_eq_of_le r.1 with c | c
  · have d : tab l.length (tfL l day q 6).1 = tab l.length (fun j => usab (l.getD j nilLot) day) := tab_congr (fun j hj => tfL_full h 6 c j hj (by
      have := getD_ok h j
      omega))
    rw [d] at a b ⊢
    omega
  · omega
end Go.Proofs.YtndcanllkmfahaaDoor
