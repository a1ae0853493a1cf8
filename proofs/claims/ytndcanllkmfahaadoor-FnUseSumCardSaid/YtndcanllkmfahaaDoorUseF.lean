/- Contracts of UseFirst, UseMost, UseBound, SpoilLeast and LackLeast, of the program and of the reference model.
   Conditions: lists have at most 1048576 elements. -/
import Derived.Test.YtndcanllkmfahaaDoorUseM
import Derived.Test.YtndcanllkmfahaaDoorSlKit
namespace Go.Proofs.YtndcanllkmfahaaDoor
open Go.RowKit

def useGo : Int → List Lot → List Int → List (List Int)
  | _, _, [] => []
  | day, l, q :: r => takeFirstL l day q :: useGo (day + 1) (takeDoL l day (takeFirstL l day q)) r
def useFirstL (l : List Lot) (wants : List Int) : List (List Int) := if stockOk l wants = true then useGo 0 l wants else []

theorem useGo_len : ∀ (day : Int) (l : List Lot) (r : List Int), (useGo day l r).length = r.length
  | _, _, [] => rfl
  | day, l, q :: r => by simp [useGo, useGo_len]

/-- What is left of the lots when so many days are over. -/
def lotsOn : Int → List Lot → List Int → Nat → List Lot
  | _, l, [], _ => l
  | _, l, _ :: _, 0 => l
  | day, l, q :: r, k + 1 => lotsOn (day + 1) (takeDoL l day (takeFirstL l day q)) r k
theorem lotsOn_zero (day : Int) (l : List Lot) (ws : List Int) : lotsOn day l ws 0 = l := by cases ws <;> rfl

theorem useGo_at : ∀ {day : Int} {l : List Lot} {wants : List Int} {k : Nat} {q : Int}, wants[k]? = some q → (useGo day l wants)[k]? = some (takeFirstL (lotsOn day l wants k) (day + k) q)
  | _, _, [], k, q, h => by simp at h
  | day, l, p :: r, 0, q, h => by
    obtain rfl : p = q := by simpa using h
    simp [useGo, lotsOn_zero]
  | day, l, p :: r, k + 1, q, h => by
    have := useGo_at (day := day + 1) (l := takeDoL l day (takeFirstL l day p)) (wants := r) (k := k) (q := q) (by simpa using h)
    simp only [useGo, List.getElem?_cons_succ, lotsOn]
    rw [this, show day + 1 + (k : Int) = day + ((k + 1 : Nat) : Int) from by omega]

theorem lotsOn_succ : ∀ {day : Int} {l : List Lot} {wants : List Int} {k : Nat} {q : Int}, wants[k]? = some q →
    lotsOn day l wants (k + 1) = takeDoL (lotsOn day l wants k) (day + k) (takeFirstL (lotsOn day l wants k) (day + k) q)
  | _, _, [], k, q, h => by simp at h
  | day, l, p :: r, 0, q, h => by
    obtain rfl : p = q := by simpa using h
    show lotsOn (day + 1) (takeDoL l day (takeFirstL l day p)) r 0 = _
    rw [lotsOn_zero, lotsOn_zero]
    simp
  | day, l, p :: r, k + 1, q, h => by
    have := lotsOn_succ (day := day + 1) (l := takeDoL l day (takeFirstL l day p)) (wants := r) (k := k) (q := q) (by simpa using h)
    simp only [lotsOn] at this ⊢
    rw [this, show day + 1 + (k : Int) = day + ((k + 1 : Nat) : Int) from by omega]

theorem lotsOn_len : ∀ (day : Int) (l : List Lot) (wants : List Int) (k : Nat), (lotsOn day l wants k).length ≤ l.length
  | _, _, [], _ => Nat.le_refl _
  | _, _, _ :: _, 0 => Nat.le_refl _
  | day, _, _ :: r, k + 1 => Nat.le_trans (lotsOn_len (day + 1) _ r k) (takeDoL_len _ _ _)

theorem stockOk_parts {l : List Lot} {xs : List Int} (h : stockOk l xs = true) : lotsOk l = true ∧ wantsOk xs = true := by
  unfold stockOk at h
  simpa using h

theorem wantsOk_at {xs : List Int} (h : wantsOk xs = true) : xs.length ≤ 6 ∧ ∀ x ∈ xs, 0 ≤ x ∧ x ≤ 50 := by
  unfold wantsOk at h
  simp only [Bool.and_eq_true, decide_eq_true_eq] at h
  refine ⟨h.1, fun x hx => ?_⟩
  have := h.2
  unfold rangeOk at this
  exact inR_iff.1 (List.all_eq_true.1 this x hx)

set_option maxRecDepth 100000 in
set_option maxHeartbeats 2000000 in
theorem implUseFirst_any (A B : Option Addr) (c d : Nat) (l : List Lot) (wants : List Int) (w : World) (hA : LotsAt w A l) (hl : l.length ≤ 1048576) (hB : IntsAt w B wants) (hw : wants.length ≤ 1048576) :
    Calls Tryd.prog 31 #[.slice A l.length c, .slice B wants.length d] w fun e w' => ∃ v, e = .returned v ∧ TabSl w' w.heap.size v (useFirstL l wants) ∧ Below w.heap.size w w' := by
  cases hI : stockOk l wants with
  | false =>
    have HI := hide hI
    have HR : Hid (useFirstL l wants = []) := by unfold useFirstL; rw [hI]; exact hide rfl
    clear hI
    go_enter Tryd.func31, Tryd.ntmps31
    go_wp2_with fail
    refine (stockFits_any _ _ _ _ _ _ _ hA hl hB hw).mono ?_
    rintro e w1 ⟨rfl, hB1⟩
    rw [HI.out]
    go_wp2_with fail
    refine bodyPost_ret (results_tmp rfl _ _ _) rfl ⟨.slice none 0 0, rfl, by rw [HR.out]; exact ⟨[], World.ownsRow_nil _ _ _ _, fun i x hx => by simp at hx, fun i j u u' k _ hu _ _ => by simp at hu⟩, hB1⟩
  | true =>
    have HI := hide hI
    have hw6 := (wantsOk_at (stockOk_parts hI).2).1
    have HR : Hid (useFirstL l wants = useGo 0 l wants) := by unfold useFirstL; rw [hI]; exact hide rfl
    have HLen := hide (useGo_len 0 l wants)
    have hmk := make_rows wants.length hw
    clear hI
    go_enter Tryd.func31, Tryd.ntmps31
    go_wp2_with fail
    refine (stockFits_any _ _ _ _ _ _ _ hA hl hB hw).mono ?_
    rintro e w1 ⟨rfl, hB1⟩
    rw [HI.out]
    have hsz1 := hB1.size
    have hA1 := hA.below hB1
    have HAN : Hid (l = [] ∨ ∀ a, A = some a → a.block ≠ w1.heap.size) := hide (by
      cases l with
      | nil => exact .inl rfl
      | cons x r =>
        obtain ⟨b, off, e, hlt, _⟩ := hA 0 x rfl
        refine .inr (fun a ha => ?_)
        rw [e] at ha
        injection ha with ha
        subst ha
        show b ≠ w1.heap.size
        omega)
    have HA1 := hide (hA1.below (w' := w1.alloc (.cells (madeCells #[.slice none 0 0] wants.length) 24)) (by go_grown))
    have HZ : Hid (TabSl (w1.alloc (.cells (madeCells #[.slice none 0 0] wants.length) 24)) w.heap.size (.slice (some ⟨w1.heap.size, 0, none⟩) wants.length wants.length) (fillR (useGo 0 l wants) 0)) := hide (by
      have := fillR_zero w1 w.heap.size (useGo 0 l wants) hsz1 (by rw [HLen.out]; exact hw)
      rw [HLen.out] at this
      exact this)
    clear hA1
    go_wp2_with fail
    clear hmk
    go_loopw [0, 17] (fun lv i wr => ∃ (k : Nat) (D : Option Addr) (g : Nat), k ≤ wants.length ∧ i = .int .i64 k ∧ lv = .slice D (lotsOn 0 l wants k).length g ∧ LotsAt wr D (lotsOn 0 l wants k) ∧ (lotsOn 0 l wants k = [] ∨ ∀ a, D = some a → a.block ≠ w1.heap.size) ∧ TabSl wr w.heap.size (.slice (some ⟨w1.heap.size, 0, none⟩) wants.length wants.length) (fillR (useGo 0 l wants) k) ∧ Below w.heap.size w wr) (fun _ i _ => wants.length - (intOf i).toNat)
    case atStart => exact ⟨0, A, c, Nat.zero_le _, rfl, by rw [lotsOn_zero], by rw [lotsOn_zero]; exact HA1.out, by rw [lotsOn_zero]; exact HAN.out, HZ.out, by go_grown⟩
    case round =>
      clear HA1 HAN HZ hA hB1
      obtain ⟨k, D, g, hk, rfl, rfl, hL, hN, hS, hb⟩ := hrel
      have hsz := hb.size
      by_cases hlt : k < wants.length
      · obtain ⟨q, hQ⟩ : ∃ q, wants[k]? = some q := ⟨_, List.getElem?_eq_getElem hlt⟩
        obtain ⟨b2, off2, rfl, hbl2, hd1⟩ := (hB.below hb) k q hQ
        have HN := hide (lotsOn_succ (day := 0) (l := l) hQ)
        have HU := hide (useGo_at (day := 0) (l := l) hQ)
        have hcl : (lotsOn 0 l wants k).length ≤ 1048576 := Nat.le_trans (lotsOn_len 0 l wants k) hl
        simp only [Int.zero_add] at HN HU
        have HN2 := hide HN.out
        have HU2 := hide HU.out
        clear HN HU hQ
        obtain ⟨cur, HCU⟩ : ∃ cur, Hid (lotsOn 0 l wants k = cur) := ⟨_, hide rfl⟩
        rw [HCU.out] at hcl hL hN
        have HN3 : Hid (lotsOn 0 l wants (k + 1) = takeDoL cur (k : Int) (takeFirstL cur (k : Int) q)) := hide (by rw [← HCU.out]; exact HN2.out)
        have HU3 : Hid ((useGo 0 l wants)[k]? = some (takeFirstL cur (k : Int) q)) := hide (by rw [← HCU.out]; exact HU2.out)
        clear HN2 HU2
        have htl : (takeFirstL cur (k : Int) q).length ≤ 1048576 := Nat.le_trans (takeFirstL_len _ _ _) hcl
        obtain ⟨t, HT⟩ : ∃ t, Hid (takeFirstL cur (k : Int) q = t) := ⟨_, hide rfl⟩
        rw [HT.out] at htl
        have HN4 : Hid (lotsOn 0 l wants (k + 1) = takeDoL cur (k : Int) t) := hide (by rw [HN3.out, HT.out])
        have HU4 : Hid ((useGo 0 l wants)[k]? = some t) := hide (by rw [HU3.out, HT.out])
        clear HN3 HU3
        have HL := hide hL
        have HS := hide hS
        have HNE := hide hN
        have hg0 := hS.lt
        have hz : (0 : Int) ≤ k := by omega
        have hz3 : (k : Int) < wants.length := by omega
        clear hL hS hN
        rw [HCU.out]
        go_wp2_with fail
        refine (implTakeFirst_any _ _ _ _ _ _ HL.out hcl).mono ?_
        rintro e w2 ⟨v, rfl, hv, hB2⟩
        rw [HT.out] at hv
        obtain ⟨A', c', rfl, -, -⟩ := hv.form
        have hS2 := HS.out.below hB2
        obtain ⟨u0, hq1⟩ := hS2.cell k (by rw [fillR_len, HLen.out]; exact hlt)
        have hf1 := hS2.frozen k
        have hb2 := next hb hB2
        have hsz2 := hb2.size
        have hg2 := hS2.lt
        have HN : Hid (TabSl (w2.setCell ⟨w1.heap.size, k, none⟩ (.slice A' t.length c')) w.heap.size (.slice (some ⟨w1.heap.size, 0, none⟩) wants.length wants.length) (fillR (useGo 0 l wants) (k + 1))) := hide (by
          rw [← fillR_set HU4.out]
          exact HS.out.store hB2 hsz hv k (by rw [fillR_len, HLen.out]; exact hlt))
        have HI2 := hide ((hS2.keepRow (j := k) (u := .slice A' t.length c') hv).ints)
        have HL2 := hide ((HL.out.below hB2).far (j := k) (u := .slice A' t.length c') HNE.out)
        have hb2' : Below w.heap.size w (w2.setCell ⟨w1.heap.size, k, none⟩ (.slice A' t.length c')) := hb2.setCell (by show w.heap.size ≤ w1.heap.size; exact hsz1) _
        have hsz2' : (w2.setCell ⟨w1.heap.size, k, none⟩ (.slice A' t.length c')).heap.size = w2.heap.size := by simp
        have HZZ := hide hsz2'
        clear hS2 hv HS HL hB2 hsz2'
        go_wp2_with fail
        refine (implTakeDo_any _ _ _ _ _ _ _ _ HL2.out hcl HI2.out htl).mono ?_
        rintro e w3 ⟨v3, rfl, hV3, hB3⟩
        have hb3 := next hb2' hB3
        have HN5 := hide (HN.out.below hB3)
        obtain ⟨A3, c3, rfl, hL3⟩ := hV3.form
        have HNE3 : Hid (∀ a, A3 = some a → a.block ≠ w1.heap.size) := hide (fun a ha => by
          have := (World.ownsRow.lt hV3 a.block (by rw [ha]; rfl)).1
          rw [HZZ.out] at this
          omega)
        have HL3 := hide hL3
        clear hV3 hL3 HN
        go_wp2_with fail
        go_roundw
        case rel => exact ⟨k + 1, A3, c3, hlt, by go_num, by rw [HN4.out], by rw [HN4.out]; exact HL3.out, .inr HNE3.out, HN5.out, hb3⟩
        case measure => simp [intOf]; omega
      · have HE : Hid (TabSl wr w.heap.size (.slice (some ⟨w1.heap.size, 0, none⟩) wants.length wants.length) (useFirstL l wants)) := hide (by
          rw [HR.out, ← fillR_end (rows := useGo 0 l wants) (k := k) (by rw [HLen.out]; omega)]
          exact hS)
        clear hS hL hN
        go_wp2_with fail
        refine bodyPost_ret (results_tmp rfl _ _ _) rfl ⟨.slice (some ⟨w1.heap.size, 0, none⟩) wants.length wants.length, rfl, HE.out, hb⟩

set_option maxRecDepth 100000 in
set_option maxHeartbeats 2000000 in
theorem specUseFirst_any (A B : Option Addr) (c d : Nat) (l : List Lot) (wants : List Int) (w : World) (hA : LotsAt w A l) (hl : l.length ≤ 1048576) (hB : IntsAt w B wants) (hw : wants.length ≤ 1048576) :
    Calls Tryd.prog 33 #[.slice A l.length c, .slice B wants.length d] w fun e w' => ∃ v, e = .returned v ∧ TabSl w' w.heap.size v (useFirstL l wants) ∧ Below w.heap.size w w' := by
  have hown0 : TabSl (w.alloc (.cells #[] 24)) w.heap.size (.slice (some ⟨w.heap.size, 0, none⟩) 0 0) [] := ⟨[], World.ownsRow_lit w #[] 0 (Nat.le_refl _) (by unfold maxLen; omega) rfl, fun i x hx => by simp at hx, fun i j u u' k _ hu _ _ => by simp at hu⟩
  have HO := hide hown0
  clear hown0
  cases hI : lotsOk l with
  | false =>
    have HI := hide hI
    have HR : Hid (useFirstL l wants = []) := by unfold useFirstL stockOk; rw [hI]; exact hide rfl
    clear hI
    go_enter Tryd.func33, Tryd.ntmps33
    go_wp2_with fail
    refine (specLotsValid_any _ _ _ _ (hA.below (by go_grown)) hl).mono ?_
    rintro e w1 ⟨rfl, hB1⟩
    rw [HI.out]
    have hb1 : Below w.heap.size w w1 := Below.trans (by go_grown) (hB1.mono (by simp))
    go_wp2_with fail
    refine bodyPost_ret (results_tmp rfl _ _ _) rfl ⟨.slice (some ⟨w.heap.size, 0, none⟩) 0 0, rfl, by rw [HR.out]; exact HO.out.below hB1, hb1⟩
  | true =>
    have HI := hide hI
    cases hV : wantsOk wants with
    | false =>
      have HV := hide hV
      have HR : Hid (useFirstL l wants = []) := by unfold useFirstL stockOk; rw [hI, hV]; exact hide rfl
      clear hI hV
      go_enter Tryd.func33, Tryd.ntmps33
      go_wp2_with fail
      refine (specLotsValid_any _ _ _ _ (hA.below (by go_grown)) hl).mono ?_
      rintro e w1 ⟨rfl, hB1⟩
      rw [HI.out]
      have hb1 : Below w.heap.size w w1 := Below.trans (by go_grown) (hB1.mono (by simp))
      go_wp2_with fail
      refine (specWantsValid_any _ _ _ _ (hB.below hb1) hw).mono ?_
      rintro e w2 ⟨rfl, hB2⟩
      rw [HV.out]
      have hb2 := next hb1 hB2
      go_wp2_with fail
      refine bodyPost_ret (results_tmp rfl _ _ _) rfl ⟨.slice (some ⟨w.heap.size, 0, none⟩) 0 0, rfl, by rw [HR.out]; exact (HO.out.below hB1).below hB2, hb2⟩
    | true =>
      have HV := hide hV
      have hw6 := (wantsOk_at hV).1
      have HR : Hid (useFirstL l wants = useGo 0 l wants) := by unfold useFirstL stockOk; rw [hI, hV]; exact hide rfl
      have HLen := hide (useGo_len 0 l wants)
      clear hI hV
      go_enter Tryd.func33, Tryd.ntmps33
      go_wp2_with fail
      refine (specLotsValid_any _ _ _ _ (hA.below (by go_grown)) hl).mono ?_
      rintro e w0 ⟨rfl, hB0⟩
      rw [HI.out]
      have hb0 : Below w.heap.size w w0 := Below.trans (by go_grown) (hB0.mono (by simp))
      go_wp2_with fail
      refine (specWantsValid_any _ _ _ _ (hB.below hb0) hw).mono ?_
      rintro e w1 ⟨rfl, hB1⟩
      rw [HV.out]
      have hb1 := next hb0 hB1
      have HA1 := hide (hA.below hb1)
      have HO1 : Hid (TabSl w1 w.heap.size (.slice (some ⟨w.heap.size, 0, none⟩) 0 0) ((useGo 0 l wants).take 0)) := hide ((HO.out.below hB0).below hB1)
      clear HO hB0 hB1 hb0
      go_wp2_with fail
      go_loopw [0, 5, 6] (fun lv v i wr => ∃ (k : Nat) (D : Option Addr) (g : Nat), k ≤ wants.length ∧ i = .int .i64 k ∧ lv = .slice D (lotsOn 0 l wants k).length g ∧ LotsAt wr D (lotsOn 0 l wants k) ∧ TabSl wr w.heap.size v ((useGo 0 l wants).take k) ∧ Below w.heap.size w wr) (fun _ _ i _ => wants.length - (intOf i).toNat)
      case atStart => exact ⟨0, A, c, Nat.zero_le _, rfl, by rw [lotsOn_zero], by rw [lotsOn_zero]; exact HA1.out, HO1.out, hb1⟩
      case round =>
        clear HA1 HO1 hA hb1
        obtain ⟨k, D, g, hk, rfl, rfl, hL, hS, hb⟩ := hrel
        have hsz := hb.size
        by_cases hlt : k < wants.length
        · obtain ⟨q, hQ⟩ : ∃ q, wants[k]? = some q := ⟨_, List.getElem?_eq_getElem hlt⟩
          obtain ⟨b2, off2, rfl, hbl2, hd1⟩ := (hB.below hb) k q hQ
          have HN := hide (lotsOn_succ (day := 0) (l := l) hQ)
          have HU := hide (useGo_at (day := 0) (l := l) hQ)
          have hcl : (lotsOn 0 l wants k).length ≤ 1048576 := Nat.le_trans (lotsOn_len 0 l wants k) hl
          simp only [Int.zero_add] at HN HU
          have HN2 := hide HN.out
          have HU2 := hide HU.out
          clear HN HU hQ
          obtain ⟨cur, HCU⟩ : ∃ cur, Hid (lotsOn 0 l wants k = cur) := ⟨_, hide rfl⟩
          rw [HCU.out] at hcl hL
          have HN3 : Hid (lotsOn 0 l wants (k + 1) = takeDoL cur (k : Int) (takeFirstL cur (k : Int) q)) := hide (by rw [← HCU.out]; exact HN2.out)
          have HU3 : Hid ((useGo 0 l wants)[k]? = some (takeFirstL cur (k : Int) q)) := hide (by rw [← HCU.out]; exact HU2.out)
          clear HN2 HU2
          have htl : (takeFirstL cur (k : Int) q).length ≤ 1048576 := Nat.le_trans (takeFirstL_len _ _ _) hcl
          obtain ⟨t, HT⟩ : ∃ t, Hid (takeFirstL cur (k : Int) q = t) := ⟨_, hide rfl⟩
          rw [HT.out] at htl
          have HN4 : Hid (lotsOn 0 l wants (k + 1) = takeDoL cur (k : Int) t) := hide (by rw [HN3.out, HT.out])
          have HU4 : Hid ((useGo 0 l wants).take (k + 1) = (useGo 0 l wants).take k ++ [t]) := hide (by rw [List.take_add_one, HU3.out, HT.out]; rfl)
          have hrl : ((useGo 0 l wants).take k).length ≤ 1048576 := by rw [List.length_take]; omega
          clear HN3 HU3
          have HL := hide hL
          have HS := hide hS
          have HLO : Hid (∀ j, u5.ownBlock = some j → w.heap.size ≤ j ∧ j < wr.heap.size) := hide (fun j hj => by
            obtain ⟨vs, h1, _⟩ := hS
            exact h1.lt j hj)
          have hz : (0 : Int) ≤ k := by omega
          have hz3 : (k : Int) < wants.length := by omega
          clear hL hS
          rw [HCU.out]
          go_wp2_with fail
          refine (specTakeFirst_any _ _ _ _ _ _ HL.out hcl).mono ?_
          rintro e w2 ⟨v, rfl, hv, hB2⟩
          rw [HT.out] at hv
          obtain ⟨A', c', rfl, hI2, -⟩ := hv.form
          have hb2 := next hb hB2
          have hsz2 := hb2.size
          have HV2 := hide hv
          have HI2 := hide hI2
          have HL2 := hide (HL.out.below hB2)
          have hsz12 := hB2.size
          clear hv HL hI2
          go_wp2_with fail
          refine (specTakeDo_any _ _ _ _ _ _ _ _ HL2.out hcl HI2.out htl).mono ?_
          rintro e w3 ⟨v3, rfl, hV3, hB3⟩
          have hb3 := next hb2 hB3
          have hsz3 := hb3.size
          obtain ⟨A3, c3, rfl, -⟩ := hV3.form
          have HV3 := hide hV3
          have HVW : Hid (IntSl (w3.alloc (.cells #[.slice A' t.length c'] 24)) wr.heap.size (.slice A' t.length c') t) := hide (World.ownsRow.alloc (HV2.out.below hB3) _)
          have HBW : Hid (Below wr.heap.size wr (w3.alloc (.cells #[.slice A' t.length c'] 24))) := hide ((next hB2 hB3).alloc (by have := hB3.size; omega) _)
          have hsz23 := hB3.size
          clear hV3 HV2 hB2 hB3
          go_wp2_with (at_builtin; refine wpList_push_row rfl _ _ rfl w.heap.size u5 _ rfl HS.out HBW.out hsz w3.heap.size (.slice A' t.length c') t HVW.out rfl (heap_alloc_new w3 _) hrl ?_; intro gg cap w5 hown5 hgrow5)
          have HN5 : Hid (TabSl w5 w.heap.size (.slice (some ⟨gg, 0, none⟩) (((useGo 0 l wants).take k).length + 1) cap) ((useGo 0 l wants).take (k + 1))) := hide (by rw [HU4.out]; exact hown5)
          have hb5 : Below w.heap.size w w5 := (hb3.alloc hsz3 _).grown hgrow5 (by simp; omega) (fun j hj => (HLO.out j hj).1)
          have HL5 : Hid (LotsAt w5 A3 (takeDoL cur (k : Int) t)) := hide (LotSl.lots (LotSl.row (World.ownsRow.alloc HV3.out _) hgrow5 (by
            cases e : (Value.slice A3 (takeDoL cur (k : Int) t).length c3).ownBlock with
            | none => exact .inl rfl
            | some j => exact .inr (fun e' => by
                have a := (World.ownsRow.lt HV3.out j e).1
                have b := (HLO.out j e'.symm).2
                omega))))
          clear hown5 hgrow5 HS HVW HBW HV3 HLO
          go_wp2_with fail
          go_roundw
          case rel => exact ⟨k + 1, A3, c3, hlt, by go_num, by rw [HN4.out], by rw [HN4.out]; exact HL5.out, by have h5 := HN5.out; rwa [List.length_take] at h5, hb5⟩
          case measure => simp [intOf]; omega
        · have HE : Hid (TabSl wr w.heap.size u5 (useFirstL l wants)) := hide (by
            rw [List.take_of_length_le (by rw [HLen.out]; omega)] at hS
            rw [HR.out]
            exact hS)
          clear hS hL
          go_wp2_with fail
          refine bodyPost_ret (results_tmp rfl _ _ _) rfl ⟨u5, rfl, HE.out, hb⟩
end Go.Proofs.YtndcanllkmfahaaDoor
