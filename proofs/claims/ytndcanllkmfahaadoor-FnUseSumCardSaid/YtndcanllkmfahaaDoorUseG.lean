/- Contracts of UseMost, UseBound, SpoilLeast and LackLeast, of the program and of the reference model.
   Conditions: lists have at most 1048576 elements. -/
import Derived.Test.YtndcanllkmfahaaDoorUseF
namespace Go.Proofs.YtndcanllkmfahaaDoor
open Go.RowKit

theorem tfK_entries {l : List Lot} (h : lotsOk l = true) (day last : Int) : ∀ (k : Nat) (s : (Nat → Int) × Int), 0 ≤ s.2 → s.2 ≤ 50 → (∀ j, 0 ≤ s.1 j ∧ s.1 j ≤ 9) → ∀ j, 0 ≤ (tfK l day last k s).1 j ∧ (tfK l day last k s).1 j ≤ 9
  | 0, _, _, _, hs => hs
  | k + 1, s, h0, h1, hs => by
    intro j
    have ih := tfK_entries h day last k s h0 h1 hs j
    have hr := tfK_range h day last k s h0 h1
    have hu := usab_range (getD_ok h k) day
    unfold tfK
    split
    · show 0 ≤ (if j = k then min (tfK l day last k s).2 (usab (l.getD k nilLot) day) else (tfK l day last k s).1 j) ∧ (if j = k then min (tfK l day last k s).2 (usab (l.getD k nilLot) day) else (tfK l day last k s).1 j) ≤ 9
      split <;> omega
    · exact ih

theorem tfL_entries {l : List Lot} (h : lotsOk l = true) (day want : Int) (h0 : 0 ≤ want) (h1 : want ≤ 50) : ∀ (m : Nat) (j : Nat), 0 ≤ (tfL l day want m).1 j ∧ (tfL l day want m).1 j ≤ 9
  | 0, _ => by show (0 : Int) ≤ 0 ∧ (0 : Int) ≤ 9; omega
  | m + 1, j => tfK_entries h day m _ _ (tfL_range h day want h0 h1 m).1 (tfL_range h day want h0 h1 m).2 (tfL_entries h day want h0 h1 m) j

theorem takeFirstL_entries {l : List Lot} {day want : Int} : ∀ t ∈ takeFirstL l day want, 0 ≤ t ∧ t ≤ 9 := by
  intro t ht
  unfold takeFirstL at ht
  split at ht
  · rename_i h
    simp only [Bool.and_eq_true, inR_iff] at h
    obtain ⟨j, _, rfl⟩ := List.mem_map.1 ht
    exact tfL_entries h.1 day want h.2.1 h.2.2 6 j
  · simp at ht

theorem useGo_rows : ∀ (day : Int) (l : List Lot) (r : List Int) (n : Nat), l.length ≤ n → ∀ x ∈ useGo day l r, x.length ≤ n ∧ ∀ t ∈ x, 0 ≤ t ∧ t ≤ 9
  | _, _, [], _, _, x, hx => by simp [useGo] at hx
  | day, l, q :: r, n, hn, x, hx => by
    unfold useGo at hx
    rcases List.mem_cons.1 hx with rfl | hx
    · exact ⟨Nat.le_trans (takeFirstL_len _ _ _) hn, takeFirstL_entries⟩
    · exact useGo_rows (day + 1) _ r n (Nat.le_trans (takeDoL_len _ _ _) hn) x hx

theorem useFirstL_rows {l : List Lot} {wants : List Int} : ∀ x ∈ useFirstL l wants, x.length ≤ 5 ∧ ∀ t ∈ x, 0 ≤ t ∧ t ≤ 9 := by
  intro x hx
  unfold useFirstL at hx
  split at hx
  · rename_i h
    exact useGo_rows 0 l wants 5 (lotsOk_len (stockOk_parts h).1) x hx
  · simp at hx

theorem useFirstL_len {l : List Lot} {wants : List Int} : (useFirstL l wants).length ≤ 6 := by
  unfold useFirstL
  split
  · rename_i h
    rw [useGo_len]
    exact (wantsOk_at (stockOk_parts h).2).1
  · simp

theorem rows_range {rows : List (List Int)} (hl : rows.length ≤ 6) (h : ∀ x ∈ rows, x.length ≤ 5 ∧ ∀ t ∈ x, 0 ≤ t ∧ t ≤ 9) : useSumW rows = sumL (rows.map sumL) ∧ 0 ≤ sumL (rows.map sumL) ∧ sumL (rows.map sumL) ≤ 270 := by
  have h1 : ∀ x ∈ rows, sumW x = sumL x ∧ 0 ≤ sumL x ∧ sumL x ≤ 45 := fun x hx => by
    have a := (h x hx).1
    have r := sumL_range (h x hx).2
    exact ⟨sumW_plain (h x hx).2 (by omega) (by omega), r.1, by omega⟩
  have h2 : rows.map sumW = rows.map sumL := List.map_congr_left (fun x hx => (h1 x hx).1)
  have h3 : ∀ s ∈ rows.map sumL, 0 ≤ s ∧ s ≤ 45 := fun s hs => by
    obtain ⟨x, hx, rfl⟩ := List.mem_map.1 hs
    exact (h1 x hx).2
  have hm : (rows.map sumL).length ≤ 6 := by rw [List.length_map]; exact hl
  have r := sumL_range h3
  unfold useSumW
  rw [h2]
  exact ⟨sumW_plain h3 (by omega) (by omega), r.1, by omega⟩

def useMostL (l : List Lot) (wants : List Int) : Int := if stockOk l wants = true then useSumW (useFirstL l wants) else -1

theorem useMostL_range {l : List Lot} {wants : List Int} (h : stockOk l wants = true) : 0 ≤ useMostL l wants ∧ useMostL l wants ≤ 270 := by
  unfold useMostL
  rw [if_pos h]
  have := rows_range (useFirstL_len (l := l) (wants := wants)) useFirstL_rows
  rw [this.1]
  exact this.2

set_option maxHeartbeats 1000000 in
theorem implUseMost_any (A B : Option Addr) (c d : Nat) (l : List Lot) (wants : List Int) (w : World) (hA : LotsAt w A l) (hl : l.length ≤ 1048576) (hB : IntsAt w B wants) (hw : wants.length ≤ 1048576) :
    Calls Tryd.prog 27 #[.slice A l.length c, .slice B wants.length d] w fun e w' => e = .returned (.int .i64 (useMostL l wants)) ∧ Below w.heap.size w w' := by
  cases hI : stockOk l wants with
  | false =>
    have HI := hide hI
    have HR : Hid (useMostL l wants = -1) := by unfold useMostL; rw [hI]; exact hide rfl
    clear hI
    go_enter Tryd.func27, Tryd.ntmps27
    go_wp2_with fail
    refine (stockFits_any _ _ _ _ _ _ _ hA hl hB hw).mono ?_
    rintro e w1 ⟨rfl, hB1⟩
    rw [HI.out]
    go_wp2_with fail
    go_ret
    exact ⟨by rw [HR.out]; rfl, hB1⟩
  | true =>
    have HI := hide hI
    have HR : Hid (useMostL l wants = useSumW (useFirstL l wants)) := by unfold useMostL; rw [hI]; exact hide rfl
    have hul : (useFirstL l wants).length ≤ 1048576 := Nat.le_trans useFirstL_len (by omega)
    have HUR : Hid (∀ x ∈ useFirstL l wants, x.length ≤ 1048576) := hide (fun x hx => Nat.le_trans (useFirstL_rows x hx).1 (by omega))
    clear hI
    go_enter Tryd.func27, Tryd.ntmps27
    go_wp2_with fail
    refine (stockFits_any _ _ _ _ _ _ _ hA hl hB hw).mono ?_
    rintro e w1 ⟨rfl, hB1⟩
    rw [HI.out]
    go_wp2_with fail
    refine (implUseFirst_any _ _ _ _ _ _ _ (hA.below hB1) hl (hB.below hB1) hw).mono ?_
    rintro e w2 ⟨v, rfl, hS, hB2⟩
    have hb2 := next hB1 hB2
    obtain ⟨D, g, rfl, hRw⟩ := hS.form
    clear hS
    go_wp2_with fail
    refine (implUseSum_any _ _ _ _ hRw hul HUR.out).mono ?_
    rintro e w3 ⟨rfl, hB3⟩
    have hb3 := next hb2 hB3
    go_wp2_with fail
    go_ret
    exact ⟨by rw [HR.out]; rfl, hb3⟩

set_option maxHeartbeats 1000000 in
theorem specUseMost_any (A B : Option Addr) (c d : Nat) (l : List Lot) (wants : List Int) (w : World) (hA : LotsAt w A l) (hl : l.length ≤ 1048576) (hB : IntsAt w B wants) (hw : wants.length ≤ 1048576) :
    Calls Tryd.prog 37 #[.slice A l.length c, .slice B wants.length d] w fun e w' => e = .returned (.int .i64 (useMostL l wants)) ∧ Below w.heap.size w w' := by
  cases hI : lotsOk l with
  | false =>
    have HI := hide hI
    have HR : Hid (useMostL l wants = -1) := by unfold useMostL stockOk; rw [hI]; exact hide rfl
    clear hI
    go_enter Tryd.func37, Tryd.ntmps37
    go_wp2_with fail
    refine (specLotsValid_any _ _ _ _ hA hl).mono ?_
    rintro e w1 ⟨rfl, hB1⟩
    rw [HI.out]
    go_wp2_with fail
    go_ret
    exact ⟨by rw [HR.out]; rfl, hB1⟩
  | true =>
    have HI := hide hI
    cases hV : wantsOk wants with
    | false =>
      have HV := hide hV
      have HR : Hid (useMostL l wants = -1) := by unfold useMostL stockOk; rw [hI, hV]; exact hide rfl
      clear hI hV
      go_enter Tryd.func37, Tryd.ntmps37
      go_wp2_with fail
      refine (specLotsValid_any _ _ _ _ hA hl).mono ?_
      rintro e w1 ⟨rfl, hB1⟩
      rw [HI.out]
      go_wp2_with fail
      refine (specWantsValid_any _ _ _ _ (hB.below hB1) hw).mono ?_
      rintro e w2 ⟨rfl, hB2⟩
      rw [HV.out]
      have hb2 := next hB1 hB2
      go_wp2_with fail
      go_ret
      exact ⟨by rw [HR.out]; rfl, hb2⟩
    | true =>
      have HV := hide hV
      have HR : Hid (useMostL l wants = useSumW (useFirstL l wants)) := by unfold useMostL stockOk; rw [hI, hV]; exact hide rfl
      have hul : (useFirstL l wants).length ≤ 1048576 := Nat.le_trans useFirstL_len (by omega)
      have HUR : Hid (∀ x ∈ useFirstL l wants, x.length ≤ 1048576) := hide (fun x hx => Nat.le_trans (useFirstL_rows x hx).1 (by omega))
      clear hI hV
      go_enter Tryd.func37, Tryd.ntmps37
      go_wp2_with fail
      refine (specLotsValid_any _ _ _ _ hA hl).mono ?_
      rintro e w0 ⟨rfl, hB0⟩
      rw [HI.out]
      go_wp2_with fail
      refine (specWantsValid_any _ _ _ _ (hB.below hB0) hw).mono ?_
      rintro e w1 ⟨rfl, hBx⟩
      rw [HV.out]
      have hB1 := next hB0 hBx
      go_wp2_with fail
      refine (specUseFirst_any _ _ _ _ _ _ _ (hA.below hB1) hl (hB.below hB1) hw).mono ?_
      rintro e w2 ⟨v, rfl, hS, hB2⟩
      have hb2 := next hB1 hB2
      obtain ⟨D, g, rfl, hRw⟩ := hS.form
      clear hS
      go_wp2_with fail
      refine (specUseSum_any _ _ _ _ hRw hul HUR.out).mono ?_
      rintro e w3 ⟨rfl, hB3⟩
      have hb3 := next hb2 hB3
      go_wp2_with fail
      go_ret
      exact ⟨by rw [HR.out]; rfl, hb3⟩

def spoilL (l : List Lot) (wants : List Int) : Int := if stockOk l wants = true then unitsL l 0 - useMostL l wants else -1
def lackL (l : List Lot) (wants : List Int) : Int := if stockOk l wants = true then sumW wants - useMostL l wants else -1

theorem unitsGo_range {day : Int} {l : List Lot} (h : ∀ x ∈ l, 0 ≤ x.many ∧ x.many ≤ 9 ∧ 0 ≤ x.last ∧ x.last ≤ 5) : 0 ≤ unitsGo day l ∧ unitsGo day l ≤ 9 * l.length := by
  induction l with
  | nil => simp [unitsGo]
  | cons x r ih =>
    have a := ih (fun y hy => h y (by simp [hy]))
    have b := usab_range (h x (by simp)) day
    simp only [unitsGo, List.length_cons, Int.natCast_add, Int.natCast_one]
    omega

theorem unitsL_range {l : List Lot} (h : lotsOk l = true) (day : Int) : 0 ≤ unitsL l day ∧ unitsL l day ≤ 45 := by
  unfold unitsL
  rw [if_pos h]
  have := unitsGo_range (day := day) (fun x hx => lotsOk_at h hx)
  have := lotsOk_len h
  omega

theorem wants_sum {wants : List Int} (h : wantsOk wants = true) : sumW wants = sumL wants ∧ 0 ≤ sumW wants ∧ sumW wants ≤ 300 := by
  obtain ⟨h6, hx⟩ := wantsOk_at h
  have e := sumW_plain hx (by omega) (by omega)
  have r := sumL_range hx
  rw [e]
  exact ⟨rfl, r.1, by omega⟩

set_option maxHeartbeats 1000000 in
theorem implSpoilLeast_any (A B : Option Addr) (c d : Nat) (l : List Lot) (wants : List Int) (w : World) (hA : LotsAt w A l) (hl : l.length ≤ 1048576) (hB : IntsAt w B wants) (hw : wants.length ≤ 1048576) :
    Calls Tryd.prog 39 #[.slice A l.length c, .slice B wants.length d] w fun e w' => e = .returned (.int .i64 (spoilL l wants)) ∧ Below w.heap.size w w' := by
  cases hI : stockOk l wants with
  | false =>
    have HI := hide hI
    have HR : Hid (spoilL l wants = -1) := by unfold spoilL; rw [hI]; exact hide rfl
    clear hI
    go_enter Tryd.func39, Tryd.ntmps39
    go_wp2_with fail
    refine (stockFits_any _ _ _ _ _ _ _ hA hl hB hw).mono ?_
    rintro e w1 ⟨rfl, hB1⟩
    rw [HI.out]
    go_wp2_with fail
    go_ret
    exact ⟨by rw [HR.out]; rfl, hB1⟩
  | true =>
    have HI := hide hI
    have HR : Hid (spoilL l wants = unitsL l 0 - useMostL l wants) := by unfold spoilL; rw [hI]; exact hide rfl
    obtain ⟨hr0, hr1⟩ := unitsL_range (stockOk_parts hI).1 0
    obtain ⟨hm0, hm1⟩ := useMostL_range hI
    clear hI
    go_enter Tryd.func39, Tryd.ntmps39
    go_wp2_with fail
    refine (stockFits_any _ _ _ _ _ _ _ hA hl hB hw).mono ?_
    rintro e w1 ⟨rfl, hB1⟩
    rw [HI.out]
    go_wp2_with fail
    refine (implLotsAt_any _ _ _ _ _ (hA.below hB1) hl).mono ?_
    rintro e w2 ⟨rfl, hB2⟩
    have hb2 := next hB1 hB2
    go_wp2_with fail
    refine (implUseMost_any _ _ _ _ _ _ _ (hA.below hb2) hl (hB.below hb2) hw).mono ?_
    rintro e w3 ⟨rfl, hB3⟩
    have hb3 := next hb2 hB3
    go_wp2_with fail
    go_ret
    exact ⟨by rw [HR.out]; rfl, hb3⟩

set_option maxHeartbeats 1000000 in
theorem specSpoilLeast_any (A B : Option Addr) (c d : Nat) (l : List Lot) (wants : List Int) (w : World) (hA : LotsAt w A l) (hl : l.length ≤ 1048576) (hB : IntsAt w B wants) (hw : wants.length ≤ 1048576) :
    Calls Tryd.prog 40 #[.slice A l.length c, .slice B wants.length d] w fun e w' => e = .returned (.int .i64 (spoilL l wants)) ∧ Below w.heap.size w w' := by
  cases hI : stockOk l wants with
  | false =>
    have HR : Hid (spoilL l wants = -1) := by unfold spoilL; rw [hI]; exact hide rfl
    have HM : Hid (useMostL l wants = -1) := by unfold useMostL; rw [hI]; exact hide rfl
    clear hI
    go_enter Tryd.func40, Tryd.ntmps40
    go_wp2_with fail
    refine (specUseMost_any _ _ _ _ _ _ _ hA hl hB hw).mono ?_
    rintro e w1 ⟨rfl, hB1⟩
    rw [HM.out]
    go_wp2_with fail
    go_ret
    exact ⟨by rw [HR.out]; rfl, hB1⟩
  | true =>
    have HR : Hid (spoilL l wants = unitsL l 0 - useMostL l wants) := by unfold spoilL; rw [hI]; exact hide rfl
    obtain ⟨hr0, hr1⟩ := unitsL_range (stockOk_parts hI).1 0
    obtain ⟨hm0, hm1⟩ := useMostL_range hI
    clear hI
    go_enter Tryd.func40, Tryd.ntmps40
    go_wp2_with fail
    refine (specUseMost_any _ _ _ _ _ _ _ hA hl hB hw).mono ?_
    rintro e w1 ⟨rfl, hB1⟩
    go_wp2_with fail
    refine (specLotsAt_any _ _ _ _ _ (hA.below hB1) hl).mono ?_
    rintro e w2 ⟨rfl, hB2⟩
    have hb2 := next hB1 hB2
    go_wp2_with fail
    refine (specUseMost_any _ _ _ _ _ _ _ (hA.below hb2) hl (hB.below hb2) hw).mono ?_
    rintro e w3 ⟨rfl, hB3⟩
    have hb3 := next hb2 hB3
    go_wp2_with fail
    go_ret
    exact ⟨by rw [HR.out]; rfl, hb3⟩

set_option maxHeartbeats 1000000 in
theorem implLackLeast_any (A B : Option Addr) (c d : Nat) (l : List Lot) (wants : List Int) (w : World) (hA : LotsAt w A l) (hl : l.length ≤ 1048576) (hB : IntsAt w B wants) (hw : wants.length ≤ 1048576) :
    Calls Tryd.prog 42 #[.slice A l.length c, .slice B wants.length d] w fun e w' => e = .returned (.int .i64 (lackL l wants)) ∧ Below w.heap.size w w' := by
  cases hI : stockOk l wants with
  | false =>
    have HI := hide hI
    have HR : Hid (lackL l wants = -1) := by unfold lackL; rw [hI]; exact hide rfl
    clear hI
    go_enter Tryd.func42, Tryd.ntmps42
    go_wp2_with fail
    refine (stockFits_any _ _ _ _ _ _ _ hA hl hB hw).mono ?_
    rintro e w1 ⟨rfl, hB1⟩
    rw [HI.out]
    go_wp2_with fail
    go_ret
    exact ⟨by rw [HR.out]; rfl, hB1⟩
  | true =>
    have HI := hide hI
    have HR : Hid (lackL l wants = sumW wants - useMostL l wants) := by unfold lackL; rw [hI]; exact hide rfl
    obtain ⟨-, hr0, hr1⟩ := wants_sum (stockOk_parts hI).2
    obtain ⟨hm0, hm1⟩ := useMostL_range hI
    clear hI
    go_enter Tryd.func42, Tryd.ntmps42
    go_wp2_with fail
    refine (stockFits_any _ _ _ _ _ _ _ hA hl hB hw).mono ?_
    rintro e w1 ⟨rfl, hB1⟩
    rw [HI.out]
    go_wp2_with fail
    refine (sumOf_any _ _ _ _ (hB.below hB1) hw).mono ?_
    rintro e w2 ⟨rfl, rfl⟩
    go_wp2_with fail
    refine (implUseMost_any _ _ _ _ _ _ _ (hA.below hB1) hl (hB.below hB1) hw).mono ?_
    rintro e w3 ⟨rfl, hB3⟩
    have hb3 := next hB1 hB3
    go_wp2_with fail
    go_ret
    exact ⟨by rw [HR.out]; rfl, hb3⟩

set_option maxHeartbeats 1000000 in
theorem specLackLeast_any (A B : Option Addr) (c d : Nat) (l : List Lot) (wants : List Int) (w : World) (hA : LotsAt w A l) (hl : l.length ≤ 1048576) (hB : IntsAt w B wants) (hw : wants.length ≤ 1048576) :
    Calls Tryd.prog 43 #[.slice A l.length c, .slice B wants.length d] w fun e w' => e = .returned (.int .i64 (lackL l wants)) ∧ Below w.heap.size w w' := by
  cases hI : stockOk l wants with
  | false =>
    have HR : Hid (lackL l wants = -1) := by unfold lackL; rw [hI]; exact hide rfl
    have HM : Hid (useMostL l wants = -1) := by unfold useMostL; rw [hI]; exact hide rfl
    clear hI
    go_enter Tryd.func43, Tryd.ntmps43
    go_wp2_with fail
    refine (specUseMost_any _ _ _ _ _ _ _ hA hl hB hw).mono ?_
    rintro e w1 ⟨rfl, hB1⟩
    rw [HM.out]
    go_wp2_with fail
    go_ret
    exact ⟨by rw [HR.out]; rfl, hB1⟩
  | true =>
    have HR : Hid (lackL l wants = sumW wants - useMostL l wants) := by unfold lackL; rw [hI]; exact hide rfl
    obtain ⟨-, hr0, hr1⟩ := wants_sum (stockOk_parts hI).2
    obtain ⟨hm0, hm1⟩ := useMostL_range hI
    clear hI
    go_enter Tryd.func43, Tryd.ntmps43
    go_wp2_with fail
    refine (specUseMost_any _ _ _ _ _ _ _ hA hl hB hw).mono ?_
    rintro e w1 ⟨rfl, hB1⟩
    go_wp2_with fail
    refine (l1Sum_any _ _ _ _ (hB.below hB1) hw).mono ?_
    rintro e w2 ⟨rfl, rfl⟩
    go_wp2_with fail
    refine (specUseMost_any _ _ _ _ _ _ _ (hA.below hB1) hl (hB.below hB1) hw).mono ?_
    rintro e w3 ⟨rfl, hB3⟩
    have hb3 := next hB1 hB3
    go_wp2_with fail
    go_ret
    exact ⟨by rw [HR.out]; rfl, hb3⟩

def useBoundL (l : List Lot) (wants : List Int) (day : Int) : Int := if (stockOk l wants && inR day 0 6) = true then sumL (wants.take day.toNat) + unitsL l day else -1

theorem IntsAt.take {w : World} {A : Option Addr} {xs : List Int} (h : IntsAt w A xs) (m : Nat) : IntsAt w A (xs.take m) := by
  intro i x hx
  rw [List.getElem?_take] at hx
  split at hx
  · exact h i x hx
  · cases hx

theorem sumOf_at (A : Option Addr) (c n : Nat) (xs : List Int) (w : World) (hn : xs.length = n) (hA : IntsAt w A xs) (hl : n ≤ 1048576) :
    Calls Tryd.prog 52 #[.slice A n c] w fun e w' => e = .returned (.int .i64 (sumW xs)) ∧ w = w' := by
  subst hn
  exact sumOf_any A c xs w hA hl

theorem take_sum {wants : List Int} (h : wantsOk wants = true) (m : Nat) : sumW (wants.take m) = sumL (wants.take m) ∧ 0 ≤ sumL (wants.take m) ∧ sumL (wants.take m) ≤ 300 := by
  obtain ⟨h6, hx⟩ := wantsOk_at h
  have hx' : ∀ x ∈ wants.take m, 0 ≤ x ∧ x ≤ 50 := fun x hm => hx x (List.mem_of_mem_take hm)
  have hl : (wants.take m).length ≤ 6 := by rw [List.length_take]; omega
  have r := sumL_range hx'
  exact ⟨sumW_plain hx' (by omega) (by omega), r.1, by omega⟩

set_option maxRecDepth 100000 in
set_option maxHeartbeats 1000000 in
theorem implUseBound_any (A B : Option Addr) (c d : Nat) (l : List Lot) (wants : List Int) (day : Int) (w : World) (hA : LotsAt w A l) (hl : l.length ≤ 1048576) (hB : IntsAt w B wants) (hw : wants.length ≤ 1048576) (hd : wants.length ≤ d) :
    Calls Tryd.prog 26 #[.slice A l.length c, .slice B wants.length d, .int .i64 day] w fun e w' => e = .returned (.int .i64 (useBoundL l wants day)) ∧ Below w.heap.size w w' := by
  cases hI : stockOk l wants with
  | false =>
    have HI := hide hI
    have HR : Hid (useBoundL l wants day = -1) := by unfold useBoundL; rw [hI]; exact hide rfl
    clear hI
    go_enter Tryd.func26, Tryd.ntmps26
    go_wp2_with fail
    refine (stockFits_any _ _ _ _ _ _ _ hA hl hB hw).mono ?_
    rintro e w1 ⟨rfl, hB1⟩
    rw [HI.out]
    go_wp2_with fail
    go_ret
    exact ⟨by rw [HR.out]; rfl, hB1⟩
  | true =>
    have HI := hide hI
    cases hQ : inR day 0 6 with
    | false =>
      have HQ := hide hQ
      have HR : Hid (useBoundL l wants day = -1) := by unfold useBoundL; rw [hI, hQ]; exact hide rfl
      clear hI hQ
      go_enter Tryd.func26, Tryd.ntmps26
      go_wp2_with fail
      refine (stockFits_any _ _ _ _ _ _ _ hA hl hB hw).mono ?_
      rintro e w1 ⟨rfl, hB1⟩
      rw [HI.out]
      go_wp2_with fail
      refine (inRange_is _ _ _ _ HQ _).mono ?_
      rintro e w2 ⟨rfl, rfl⟩
      go_wp2_with fail
      go_ret
      exact ⟨by rw [HR.out]; rfl, hB1⟩
    | true =>
      have HQ := hide hQ
      obtain ⟨hd0, hd6⟩ := inR_iff.1 hQ
      obtain ⟨m, hm, hml⟩ : ∃ m : Nat, (if (wants.length : Int) < day then (wants.length : Int) else day) = m ∧ m ≤ wants.length := by
        by_cases h : (wants.length : Int) < day
        · exact ⟨wants.length, by rw [if_pos h], Nat.le_refl _⟩
        · exact ⟨day.toNat, by rw [if_neg h]; omega, by omega⟩
      have HTK : Hid (wants.take m = wants.take day.toNat) := hide (by
        by_cases h : (wants.length : Int) < day
        · rw [if_pos h] at hm
          rw [List.take_of_length_le (by omega), List.take_of_length_le (by omega)]
        · rw [if_neg h] at hm
          congr 1
          omega)
      have hts := take_sum (stockOk_parts hI).2 m
      have HTS := hide hts.1
      have HR : Hid (useBoundL l wants day = sumW (wants.take m) + unitsL l day) := by unfold useBoundL; rw [hI, hQ, HTS.out, HTK.out]; exact hide rfl
      have hs01 := hts.2
      rw [← HTS.out] at hs01
      obtain ⟨hs0, hs1⟩ := hs01
      obtain ⟨hr0, hr1⟩ := unitsL_range (stockOk_parts hI).1 day
      have HTL : Hid ((wants.take m).length = m) := hide (by rw [List.length_take]; omega)
      have hmz : (0 : Int) ≤ m := by omega
      have hmz2 : (m : Int) ≤ wants.length := by omega
      have hmz3 : (m : Int) ≤ d := by omega
      have hmd : m ≤ d := by omega
      clear hI hQ hts
      go_enter Tryd.func26, Tryd.ntmps26
      go_wp2_with fail
      refine (stockFits_any _ _ _ _ _ _ _ hA hl hB hw).mono ?_
      rintro e w1 ⟨rfl, hB1⟩
      rw [HI.out]
      go_wp2_with fail
      refine (inRange_is _ _ _ _ HQ _).mono ?_
      rintro e w2 ⟨rfl, rfl⟩
      go_wp2_with fail
      refine (sumOf_at _ _ _ (wants.take m) _ HTL.out ((hB.below hB1).take m) (by omega)).mono ?_
      rintro e w2 ⟨rfl, rfl⟩
      go_wp2_with fail
      refine (implLotsAt_any _ _ _ _ _ (hA.below hB1) hl).mono ?_
      rintro e w3 ⟨rfl, hB3⟩
      have hb3 := next hB1 hB3
      go_wp2_with fail
      go_ret
      exact ⟨by rw [HR.out]; rfl, hb3⟩

theorem sumL_take_succ {xs : List Int} {k : Nat} {x : Int} (h : xs[k]? = some x) : sumL (xs.take (k + 1)) = sumL (xs.take k) + x := by
  induction xs generalizing k with
  | nil => simp at h
  | cons y r ih =>
    cases k with
    | zero =>
      obtain rfl : y = x := by simpa using h
      simp [sumL]
    | succ k =>
      simp only [List.take_succ_cons, sumL]
      rw [ih (by simpa using h)]
      omega

end Go.Proofs.YtndcanllkmfahaaDoor
