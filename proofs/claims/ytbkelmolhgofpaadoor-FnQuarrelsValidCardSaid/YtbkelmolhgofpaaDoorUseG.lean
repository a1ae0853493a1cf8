/- Contracts of UseMost, UseBound, SpoilLeast and LackLeast, of the program and of the reference model.
   Conditions: lists have at most 1048576 elements. -/
import Derived.Test.YtbkelmolhgofpaaDoorUseF
namespace Go.Proofs.YtbkelmolhgofpaaDoor
open Go.RowKit

theorem tfK_entries {l : List Lot} (h : lotsOk l = true) (day last : Int) : ∀ (k : Nat) (s : (Nat → Int) × Int), 0 ≤ s.2 → s.2 ≤ 50 → (∀ j, 0 ≤ s.1 j ∧ s.1 j ≤ 9) → ∀ j, 0 ≤ (tfK l day last k s).1 j ∧ (tfK l day last k s).1 j ≤ 9
  | 0, _, _, _, hs => hs
  | k + 1, s, h0, h1, hs => by
    intro j
    have ih := tfK_entries h day last k s h0 h1 hs j
    have hr := tfK_range h day last k s h0 h1
    have hu := usab_range (getD_ok h k) day
    unfold tfK
    split
    · show 0 ≤ (if j = k then min (tfK l day last k s).2 (usab (l.getD k nilLot) day) else (tfK l day last k s).1 j) ∧ (if j = k then min (tfK l day last k s).2 (usab (l.getD k nilLot) day) else (tfK l day last k s).1 j) ≤ 9
      split <;> omega
    · exact ih

theorem tfL_entries {l : List Lot} (h : lotsOk l = true) (day want : Int) (h0 : 0 ≤ want) (h1 : want ≤ 50) : ∀ (m : Nat) (j : Nat), 0 ≤ (tfL l day want m).1 j ∧ (tfL l day want m).1 j ≤ 9
  | 0, _ => by show (0 : Int) ≤ 0 ∧ (0 : Int) ≤ 9; omega
  | m + 1, j => tfK_entries h day m _ _ (tfL_range h day want h0 h1 m).1 (tfL_range h day want h0 h1 m).2 (tfL_entries h day want h0 h1 m) j

theorem takeFirstL_entries {l : List Lot} {day want : Int} : ∀ t ∈ takeFirstL l day want, 0 ≤ t ∧ t ≤ 9 := by
  intro t ht
  unfold takeFirstL at ht
  split at ht
  · rename_i h
    simp only [Bool.and_eq_true, inR_iff] at h
    obtain ⟨j, _, rfl⟩ := List.mem_map.1 ht
    exact tfL_entries h.1 day want h.2.1 h.2.2 6 j
  · simp at ht

theorem useGo_rows : ∀ (day : Int) (l : List Lot) (r : List Int) (n : Nat), l.length ≤ n → ∀ x ∈ useGo day l r, x.length ≤ n ∧ ∀ t ∈ x, 0 ≤ t ∧ t ≤ 9
  | _, _, [], _, _, x, hx => by simp [useGo] at hx
  | day, l, q :: r, n, hn, x, hx => by
    unfold useGo at hx
    rcases List.mem_cons.1 hx with rfl | hx
    · exact ⟨Nat.le_trans (takeFirstL_len _ _ _) hn, takeFirstL_entries⟩
    · exact useGo_rows (day + 1) _ r n (Nat.le_trans (takeDoL_len _ _ _) hn) x hx

theorem useFirstL_rows {l : List Lot} {wants : List Int} : ∀ x ∈ useFirstL l wants, x.length ≤ 5 ∧ ∀ t ∈ x, 0 ≤ t ∧ t ≤ 9 := by
  intro x hx
  unfold useFirstL at hx
  split at hx
  · rename_i h
    exact useGo_rows 0 l wants 5 (lotsOk_len (stockOk_parts h).1) x hx
  · simp at hx

theorem useFirstL_len {l : List Lot} {wants : List Int} : (useFirstL l wants).length ≤ 6 := by
  unfold useFirstL
  split
  · rename_i h
    rw [useGo_len]
    exact (wantsOk_at (stockOk_parts h).2).1
  · simp

theorem rows_range {rows : List (List Int)} (hl : rows.length ≤ 6) (h : ∀ x ∈ rows, x.length ≤ 5 ∧ ∀ t ∈ x, 0 ≤ t ∧ t ≤ 9) : useSumW rows = sumL (rows.map sumL) ∧ 0 ≤ sumL (rows.map sumL) ∧ sumL (rows.map sumL) ≤ 270 := by
  have h1 : ∀ x ∈ rows, sumW x = sumL x ∧ 0 ≤ sumL x ∧ sumL x ≤ 45 := fun x hx => by
    have a := (h x hx).1
    have r := sumL_range (h x hx).2
    exact ⟨sumW_plain (h x hx).2 (by omega) (by omega), r.1, by omega⟩
  have h2 : rows.map sumW = rows.map sumL := List.map_congr_left (fun x hx => (h1 x hx).1)
  have h3 : ∀ s ∈ rows.map sumL, 0 ≤ s ∧ s ≤ 45 := fun s hs => by
    obtain ⟨x, hx, rfl⟩ := List.mem_map.1 hs
    exact (h1 x hx).2
  have hm : (rows.map sumL).length ≤ 6 := by rw [List.length_map]; exact hl
  have r := sumL_range h3
  unfold useSumW
  rw [h2]
  exact ⟨sumW_plain h3 (by omega) (by omega), r.1, by omega⟩

def useMostL (l : List Lot) (wants : List Int) : Int := if stockOk l wants = true then useSumW (useFirstL l wants) else -1

theorem useMostL_range {l : List Lot} {wants : List Int} (h : stockOk l wants = true) : 0 ≤ useMostL l wants ∧ useMostL l wants ≤ 270 := by
  unfold useMostL
  rw [if_pos h]
  have := rows_range (useFirstL_len (l := l) (wants := wants)) useFirstL_rows
  rw [this.1]
  exact this.2

def spoilL (l : List Lot) (wants : List Int) : Int := if stockOk l wants = true then unitsL l 0 - useMostL l wants else -1
def lackL (l : List Lot) (wants : List Int) : Int := if stockOk l wants = true then sumW wants - useMostL l wants else -1

theorem unitsGo_range {day : Int} {l : List Lot} (h : ∀ x ∈ l, 0 ≤ x.many ∧ x.many ≤ 9 ∧ 0 ≤ x.last ∧ x.last ≤ 5) : 0 ≤ unitsGo day l ∧ unitsGo day l ≤ 9 * l.length := by
  induction l with
  | nil => simp [unitsGo]
  | cons x r ih =>
    have a := ih (fun y hy => h y (by simp [hy]))
    have b := usab_range (h x (by simp)) day
    simp only [unitsGo, List.length_cons, Int.natCast_add, Int.natCast_one]
    omega

theorem unitsL_range {l : List Lot} (h : lotsOk l = true) (day : Int) : 0 ≤ unitsL l day ∧ unitsL l day ≤ 45 := by
  unfold unitsL
  rw [if_pos h]
  have := unitsGo_range (day := day) (fun x hx => lotsOk_at h hx)
  have := lotsOk_len h
  omega

theorem wants_sum {wants : List Int} (h : wantsOk wants = true) : sumW wants = sumL wants ∧ 0 ≤ sumW wants ∧ sumW wants ≤ 300 := by
  obtain ⟨h6, hx⟩ := wantsOk_at h
  have e := sumW_plain hx (by omega) (by omega)
  have r := sumL_range hx
  rw [e]
  exact ⟨rfl, r.1, by omega⟩

def useBoundL (l : List Lot) (wants : List Int) (day : Int) : Int := if (stockOk l wants && inR day 0 6) = true then sumL (wants.take day.toNat) + unitsL l day else -1

theorem IntsAt.take {w : World} {A : Option Addr} {xs : List Int} (h : IntsAt w A xs) (m : Nat) : IntsAt w A (xs.take m) := by
  intro i x hx
  rw [List.getElem?_take] at hx
  split at hx
  · exact h i x hx
  · cases hx

theorem take_sum {wants : List Int} (h : wantsOk wants = true) (m : Nat) : sumW (wants.take m) = sumL (wants.take m) ∧ 0 ≤ sumL (wants.take m) ∧ sumL (wants.take m) ≤ 300 := by
  obtain ⟨h6, hx⟩ := wantsOk_at h
  have hx' : ∀ x ∈ wants.take m, 0 ≤ x ∧ x ≤ 50 := fun x hm => hx x (List.mem_of_mem_take hm)
  have hl : (wants.take m).length ≤ 6 := by rw [List.length_take]; omega
  have r := sumL_range hx'
  exact ⟨sumW_plain hx' (by omega) (by omega), r.1, by omega⟩

theorem sumL_take_succ {xs : List Int} {k : Nat} {x : Int} (h : xs[k]? = some x) : sumL (xs.take (k + 1)) = sumL (xs.take k) + x := by
  induction xs generalizing k with
  | nil => simp at h
  | cons y r ih =>
    cases k with
    | zero =>
      obtain rfl : y = x := by simpa using h
      simp [sumL]
    | succ k =>
      simp only [List.take_succ_cons, sumL]
      rw [ih (by simpa using h)]
      omega

end Go.Proofs.YtbkelmolhgofpaaDoor
