/- Contracts of UseSum and UseOk, of the program and of the reference model.
   Conditions: lists have at most 1048576 elements. -/
import Derived.Test.YtndcanllkmfahaaDoorTables
namespace Go.Proofs.YtndcanllkmfahaaDoor
open Go.RowKit

def useSumW (rows : List (List Int)) : Int := sumW (rows.map sumW)

set_option maxHeartbeats 400000 in
theorem implUseSum_any (A : Option Addr) (c : Nat) (l : List (List Int)) (w : World) (hA : RowsAt w A l) (hl : l.length ≤ 1048576) (hp : ∀ x ∈ l, x.length ≤ 1048576) :
    Calls Tryd.prog 25 #[.slice A l.length c] w fun e w' => e = .returned (.int .i64 (useSumW l)) ∧ Below w.heap.size w w' := by
  have HP := hide hp
  clear hp
  go_enter Tryd.func25, Tryd.ntmps25
  go_wp2_with fail
  go_loopw [3, 8] (fun sv i wr => ∃ (k : Nat) (s : Int), k ≤ l.length ∧ i = .int .i64 k ∧ sv = .int .i64 s ∧ Hid (useSumW l = sumGo s ((l.drop k).map sumW)) ∧ w = wr) (fun _ i _ => l.length - (intOf i).toNat)
  case atStart => exact ⟨0, 0, Nat.zero_le _, rfl, rfl, hide rfl, rfl⟩
  case round =>
    obtain ⟨k, s, hk, rfl, rfl, HG, rfl⟩ := hrel
    by_cases hlt : k < l.length
    · obtain ⟨b, off, A', c', rfl, hbl, hc1, hI⟩ := hA k l[k] (List.getElem?_eq_getElem hlt)
      have HD : Hid (l.drop k = l[k] :: l.drop (k + 1)) := hide (List.drop_eq_getElem_cons hlt)
      have hx : l[k].length ≤ 1048576 := HP.out _ (List.getElem_mem hlt)
      generalize l[k] = x at *
      have H3 : Hid (useSumW l = sumGo (wrap64 (s + sumW x)) ((l.drop (k + 1)).map sumW)) := hide (by rw [HG.out, HD.out, List.map_cons, sumGo])
      have hz : (0 : Int) ≤ k := by omega
      have hz2 : (k : Int) < l.length := by omega
      go_wp2_with fail
      refine (sumOf_any _ _ _ _ hI hx).mono ?_
      rintro e w1 ⟨rfl, rfl⟩
      go_wp2_with fail
      go_roundw
      case rel => exact ⟨k + 1, _, hlt, by go_num, rfl, H3, trivial⟩
      case measure => simp [intOf]; omega
    · have H3 : Hid (useSumW l = s) := hide (by rw [HG.out, List.drop_of_length_le (by omega), List.map_nil, sumGo])
      go_wp2_with fail
      go_ret
      exact ⟨by rw [H3.out]; rfl, by go_grown⟩

set_option maxHeartbeats 400000 in
theorem specUseSum_any (A : Option Addr) (c : Nat) (l : List (List Int)) (w : World) (hA : RowsAt w A l) (hl : l.length ≤ 1048576) (hp : ∀ x ∈ l, x.length ≤ 1048576) :
    Calls Tryd.prog 29 #[.slice A l.length c] w fun e w' => e = .returned (.int .i64 (useSumW l)) ∧ Below w.heap.size w w' := by
  have HP := hide hp
  clear hp
  go_enter Tryd.func29, Tryd.ntmps29
  go_wp2_with fail
  go_loopw [3, 4] (fun sv i wr => ∃ (k : Nat) (s : Int), k ≤ l.length ∧ i = .int .i64 k ∧ sv = .int .i64 s ∧ Hid (useSumW l = sumGo s ((l.drop k).map sumW)) ∧ w = wr) (fun _ i _ => l.length - (intOf i).toNat)
  case atStart => exact ⟨0, 0, Nat.zero_le _, rfl, rfl, hide rfl, rfl⟩
  case round =>
    obtain ⟨k, s, hk, rfl, rfl, HG, rfl⟩ := hrel
    by_cases hlt : k < l.length
    · obtain ⟨b, off, A', c', rfl, hbl, hc1, hI⟩ := hA k l[k] (List.getElem?_eq_getElem hlt)
      have HD : Hid (l.drop k = l[k] :: l.drop (k + 1)) := hide (List.drop_eq_getElem_cons hlt)
      have hx : l[k].length ≤ 1048576 := HP.out _ (List.getElem_mem hlt)
      generalize l[k] = x at *
      have H3 : Hid (useSumW l = sumGo (wrap64 (s + sumW x)) ((l.drop (k + 1)).map sumW)) := hide (by rw [HG.out, HD.out, List.map_cons, sumGo])
      have hz : (0 : Int) ≤ k := by omega
      have hz2 : (k : Int) < l.length := by omega
      go_wp2_with fail
      refine (l1Sum_any _ _ _ _ hI hx).mono ?_
      rintro e w1 ⟨rfl, rfl⟩
      go_wp2_with fail
      go_roundw
      case rel => exact ⟨k + 1, _, hlt, by go_num, rfl, H3, trivial⟩
      case measure => simp [intOf]; omega
    · have H3 : Hid (useSumW l = s) := hide (by rw [HG.out, List.drop_of_length_le (by omega), List.map_nil, sumGo])
      go_wp2_with fail
      go_ret
      exact ⟨by rw [H3.out]; rfl, by go_grown⟩

theorem drop_at {α : Type} {xs : List α} {k : Nat} {x : α} (h : xs[k]? = some x) : xs.drop k = x :: xs.drop (k + 1) := by
  obtain ⟨hk, rfl⟩ := List.getElem?_eq_some_iff.1 h
  exact List.drop_eq_getElem_cons hk

def useOkGo : Int → List Lot → List Int → List (List Int) → Bool
  | day, l, q :: r, t :: s => takeOkL l day t && (decide (sumL t ≤ q) && useOkGo (day + 1) (takeDoL l day t) r s)
  | _, _, _, _ => true
def useOkL (l : List Lot) (wants : List Int) (use : List (List Int)) : Bool := stockOk l wants && (decide (use.length = wants.length) && useOkGo 0 l wants use)

theorem takeGo_all {day : Int} {l : List Lot} {take : List Int} (hl : lotsOk l = true) (hn : take.length = l.length) (h : takeGo day l take = true) : ∀ t ∈ take, 0 ≤ t ∧ t ≤ 9 := by
  intro t ht
  obtain ⟨i, hi, rfl⟩ := List.getElem_of_mem ht
  have hil : i < l.length := by omega
  have a := takeGo_at h (List.getElem?_eq_getElem hil) (List.getElem?_eq_getElem hi)
  have b := usab_range (lotsOk_at hl (List.getElem_mem hil)) day
  omega

theorem takeOkL_sum {l : List Lot} {day : Int} {take : List Int} (h : takeOkL l day take = true) : sumW take = sumL take := by
  obtain ⟨h1, h2, h3⟩ := takeOkL_parts h
  have h5 := lotsOk_len h1
  exact sumW_plain (hi := 9) (takeGo_all h1 h2 h3) (by omega) (by omega)

theorem sumOf_q (A : Option Addr) (c : Nat) (xs : List Int) (w : World) (hA : IntsAt w A xs) (hl : xs.length ≤ 1048576) :
    Calls Tryd.prog 52 #[.slice A xs.length c] w fun e w' => e = .returned (.int .i64 (sumW xs)) ∧ w' = w := (sumOf_any A c xs w hA hl).mono fun _ _ ⟨he, hw⟩ => ⟨he, hw.symm⟩
theorem l1Sum_q (A : Option Addr) (c : Nat) (xs : List Int) (w : World) (hA : IntsAt w A xs) (hl : xs.length ≤ 1048576) :
    Calls Tryd.prog 53 #[.slice A xs.length c] w fun e w' => e = .returned (.int .i64 (sumW xs)) ∧ w' = w := (l1Sum_any A c xs w hA hl).mono fun _ _ ⟨he, hw⟩ => ⟨he, hw.symm⟩

theorem IntsAt.drewN {w : World} {A : Option Addr} {xs : List Int} (h : IntsAt w A xs) (n : Nat) : IntsAt (w.drewN n) A xs := h

set_option maxRecDepth 100000 in
set_option maxHeartbeats 2000000 in
theorem implUseOk_any (A B C : Option Addr) (c d f : Nat) (l : List Lot) (wants : List Int) (use : List (List Int)) (w : World) (hA : LotsAt w A l) (hl : l.length ≤ 1048576) (hB : IntsAt w B wants) (hw : wants.length ≤ 1048576)
    (hC : RowsAt w C use) (hu : use.length ≤ 1048576) (hp : ∀ x ∈ use, x.length ≤ 1048576) :
    Calls Tryd.prog 23 #[.slice A l.length c, .slice B wants.length d, .slice C use.length f] w fun e w' => e = .returned (.bool (useOkL l wants use)) ∧ Below w.heap.size w w' := by
  have HP := hide hp
  clear hp
  cases hI : stockOk l wants with
  | false =>
    have HI := hide hI
    have HR : Hid (useOkL l wants use = false) := by unfold useOkL; rw [hI]; exact hide rfl
    clear hI
    go_enter Tryd.func23, Tryd.ntmps23
    go_wp2_with fail
    refine (stockFits_any _ _ _ _ _ _ _ hA hl hB hw).mono ?_
    rintro e w1 ⟨rfl, hB1⟩
    rw [HI.out]
    go_wp2_with fail
    go_ret
    exact ⟨by rw [HR.out]; rfl, hB1⟩
  | true =>
    have HI := hide hI
    by_cases hn : use.length = wants.length
    · have hne : ((use.length : Int) != wants.length) = false := by simp [hn]
      have HR : Hid (useOkL l wants use = useOkGo 0 l wants use) := by unfold useOkL; rw [hI, decide_eq_true hn]; exact hide rfl
      have hn1 : use.length ≤ wants.length := by omega
      have hn2 : wants.length ≤ use.length := by omega
      clear hI hn
      go_enter Tryd.func23, Tryd.ntmps23
      go_wp2_with fail
      refine (stockFits_any _ _ _ _ _ _ _ hA hl hB hw).mono ?_
      rintro e w1 ⟨rfl, hB1⟩
      rw [HI.out]
      have hA1 := hA.below hB1
      go_wp2_with fail
      go_loopw [0, 24] (fun lv i wr => ∃ (k : Nat) (cur : List Lot) (D : Option Addr) (g : Nat), k ≤ use.length ∧ i = .int .i64 k ∧ lv = .slice D cur.length g ∧ LotsAt wr D cur ∧ cur.length ≤ 1048576 ∧ Hid (useOkL l wants use = useOkGo k cur (wants.drop k) (use.drop k)) ∧ Below w.heap.size w wr) (fun _ i _ => use.length - (intOf i).toNat)
      case atStart => exact ⟨0, l, A, c, Nat.zero_le _, rfl, rfl, hA1, hl, HR, hB1⟩
      case round =>
        clear hA1 hA hB1
        obtain ⟨k, cur, D, g, hk, rfl, rfl, hL, hcl, HG, hb⟩ := hrel
        have hsz := hb.size
        by_cases hlt : k < use.length
        · obtain ⟨b, off, E, g2, rfl, hbl, hc1, hT⟩ := (hC.below hb) k use[k] (List.getElem?_eq_getElem hlt)
          obtain ⟨q, hQ⟩ : ∃ q, wants[k]? = some q := ⟨_, List.getElem?_eq_getElem (by omega)⟩
          have HD : Hid (use.drop k = use[k] :: use.drop (k + 1)) := hide (List.drop_eq_getElem_cons hlt)
          have hWt := hB k q hQ
          have HE : Hid (wants.drop k = q :: wants.drop (k + 1)) := hide (drop_at hQ)
          clear hQ
          have hx : use[k].length ≤ 1048576 := HP.out _ (List.getElem_mem hlt)
          generalize use[k] = t at *
          obtain ⟨b2, off2, rfl, hbl2, hd1⟩ := hWt
          have HT := hide hT
          have HL := hide hL
          have hz : (0 : Int) ≤ k := by omega
          have hz2 : (k : Int) < use.length := by omega
          have hz3 : (k : Int) < wants.length := by omega
          have hlen := takeDoL_len cur (k : Int) t
          clear hL hT
          cases hK : takeOkL cur (k : Int) t with
          | false =>
            have HK := hide hK
            have H3 : Hid (useOkL l wants use = false) := hide (by rw [HG.out, HD.out, HE.out, useOkGo, hK]; rfl)
            clear hK hd1
            go_wp2_with fail
            refine (implTakeDo_any _ _ _ _ _ _ _ _ HL.out hcl HT.out hx).mono ?_
            rintro e w2 ⟨v, rfl, hS, hB2⟩
            rw [HK.out]
            have hb2 := next hb hB2
            clear hS
            go_wp2_with fail
            go_quiet (fail)
            go_wp2_with fail
            go_ret
            exact ⟨by rw [H3.out]; rfl, below_drewN hb2 _⟩
          | true =>
            have HK := hide hK
            have HSM := hide (takeOkL_sum hK)
            by_cases hq : sumL t ≤ q
            · have hdq : decide (q < sumW t) = false := decide_eq_false (by rw [HSM.out]; omega)
              have H3 : Hid (useOkL l wants use = useOkGo ((k + 1 : Nat) : Int) (takeDoL cur k t) (wants.drop (k + 1)) (use.drop (k + 1))) := hide (by rw [HG.out, HD.out, HE.out, useOkGo, hK, decide_eq_true hq]; rfl)
              clear hK hq
              go_wp2_with fail
              refine (implTakeDo_any _ _ _ _ _ _ _ _ HL.out hcl HT.out hx).mono ?_
              rintro e w2 ⟨v, rfl, hS, hB2⟩
              rw [HK.out]
              have hb2 := next hb hB2
              have hd2 := (hb2.cell (p := ⟨b2, off2 + k, none⟩) hbl2).trans hd1
              have HT2 := hide (HT.out.below hB2)
              obtain ⟨A', c', rfl, hI'⟩ := hS.form
              have HI' := hide hI'
              clear hS hI' hd1
              go_wp2_with fail
              go_quiet ((go_at_call 52; exact Calls.quiet_of_same (sumOf_q _ _ _ _ HT2.out hx)))
              go_wp2_with fail
              go_roundw
              case rel => exact ⟨k + 1, _, _, _, hlt, by go_num, rfl, HI'.out, by omega, H3, below_drewN hb2 _⟩
              case measure => simp [intOf]; omega
            · have hdq : decide (q < sumW t) = true := decide_eq_true (by rw [HSM.out]; omega)
              have H3 : Hid (useOkL l wants use = false) := hide (by rw [HG.out, HD.out, HE.out, useOkGo, hK, decide_eq_false hq]; rfl)
              clear hK hq
              go_wp2_with fail
              refine (implTakeDo_any _ _ _ _ _ _ _ _ HL.out hcl HT.out hx).mono ?_
              rintro e w2 ⟨v, rfl, hS, hB2⟩
              rw [HK.out]
              have hb2 := next hb hB2
              have hd2 := (hb2.cell (p := ⟨b2, off2 + k, none⟩) hbl2).trans hd1
              have HT2 := hide (HT.out.below hB2)
              clear hS hd1
              go_wp2_with fail
              go_quiet ((go_at_call 52; exact Calls.quiet_of_same (sumOf_q _ _ _ _ HT2.out hx)))
              go_wp2_with fail
              go_ret
              exact ⟨by rw [H3.out]; rfl, below_drewN hb2 _⟩
        · have H3 : Hid (useOkL l wants use = true) := hide (by rw [HG.out, List.drop_of_length_le (l := use) (by omega)]; cases wants.drop k <;> rfl)
          clear hL
          go_wp2_with fail
          go_ret
          exact ⟨by rw [H3.out]; rfl, hb⟩
    · have hne : ((use.length : Int) != wants.length) = true := by simp; omega
      have HR : Hid (useOkL l wants use = false) := by unfold useOkL; rw [hI, decide_eq_false hn]; exact hide rfl
      clear hI hn
      go_enter Tryd.func23, Tryd.ntmps23
      go_wp2_with fail
      refine (stockFits_any _ _ _ _ _ _ _ hA hl hB hw).mono ?_
      rintro e w1 ⟨rfl, hB1⟩
      rw [HI.out]
      go_wp2_with fail
      go_ret
      exact ⟨by rw [HR.out]; rfl, hB1⟩

set_option maxRecDepth 100000 in
set_option maxHeartbeats 2000000 in
theorem specUseOk_any (A B C : Option Addr) (c d f : Nat) (l : List Lot) (wants : List Int) (use : List (List Int)) (w : World) (hA : LotsAt w A l) (hl : l.length ≤ 1048576) (hB : IntsAt w B wants) (hw : wants.length ≤ 1048576)
    (hC : RowsAt w C use) (hu : use.length ≤ 1048576) (hp : ∀ x ∈ use, x.length ≤ 1048576) :
    Calls Tryd.prog 24 #[.slice A l.length c, .slice B wants.length d, .slice C use.length f] w fun e w' => e = .returned (.bool (useOkL l wants use)) ∧ Below w.heap.size w w' := by
  have HP := hide hp
  clear hp
  cases hI : lotsOk l with
  | false =>
    have HI := hide hI
    have HR : Hid (useOkL l wants use = false) := by unfold useOkL stockOk; rw [hI]; exact hide rfl
    clear hI
    go_enter Tryd.func24, Tryd.ntmps24
    go_wp2_with fail
    refine (specLotsValid_any _ _ _ _ hA hl).mono ?_
    rintro e w1 ⟨rfl, hB1⟩
    rw [HI.out]
    go_wp2_with fail
    go_ret
    exact ⟨by rw [HR.out]; rfl, hB1⟩
  | true =>
    have HI := hide hI
    cases hV : wantsOk wants with
    | false =>
      have HV := hide hV
      have HR : Hid (useOkL l wants use = false) := by unfold useOkL stockOk; rw [hI, hV]; exact hide rfl
      clear hI hV
      go_enter Tryd.func24, Tryd.ntmps24
      go_wp2_with fail
      refine (specLotsValid_any _ _ _ _ hA hl).mono ?_
      rintro e w1 ⟨rfl, hB1⟩
      rw [HI.out]
      go_wp2_with fail
      refine (specWantsValid_any _ _ _ _ (hB.below hB1) hw).mono ?_
      rintro e w2 ⟨rfl, hB2⟩
      rw [HV.out]
      have hb2 := next hB1 hB2
      go_wp2_with fail
      go_ret
      exact ⟨by rw [HR.out]; rfl, hb2⟩
    | true =>
      have HV := hide hV
      by_cases hn : use.length = wants.length
      · have hne : ((use.length : Int) != wants.length) = false := by simp [hn]
        have HR : Hid (useOkL l wants use = useOkGo 0 l wants use) := by unfold useOkL stockOk; rw [hI, hV, decide_eq_true hn]; exact hide rfl
        have hn1 : use.length ≤ wants.length := by omega
        have hn2 : wants.length ≤ use.length := by omega
        clear hI hV hn
        go_enter Tryd.func24, Tryd.ntmps24
        go_wp2_with fail
        refine (specLotsValid_any _ _ _ _ hA hl).mono ?_
        rintro e w0 ⟨rfl, hB0⟩
        rw [HI.out]
        go_wp2_with fail
        refine (specWantsValid_any _ _ _ _ (hB.below hB0) hw).mono ?_
        rintro e w1 ⟨rfl, hBx⟩
        rw [HV.out]
        have hB1 := next hB0 hBx
        clear hB0 hBx
        have hA1 := hA.below hB1
        go_wp2_with fail
        go_loopw [0, 7] (fun lv i wr => ∃ (k : Nat) (cur : List Lot) (D : Option Addr) (g : Nat), k ≤ use.length ∧ i = .int .i64 k ∧ lv = .slice D cur.length g ∧ LotsAt wr D cur ∧ cur.length ≤ 1048576 ∧ Hid (useOkL l wants use = useOkGo k cur (wants.drop k) (use.drop k)) ∧ Below w.heap.size w wr) (fun _ i _ => use.length - (intOf i).toNat)
        case atStart => exact ⟨0, l, A, c, Nat.zero_le _, rfl, rfl, hA1, hl, HR, hB1⟩
        case round =>
          clear hA1 hA hB1
          obtain ⟨k, cur, D, g, hk, rfl, rfl, hL, hcl, HG, hb⟩ := hrel
          have hsz := hb.size
          by_cases hlt : k < use.length
          · obtain ⟨b, off, E, g2, rfl, hbl, hc1, hT⟩ := (hC.below hb) k use[k] (List.getElem?_eq_getElem hlt)
            obtain ⟨q, hQ⟩ : ∃ q, wants[k]? = some q := ⟨_, List.getElem?_eq_getElem (by omega)⟩
            have HD : Hid (use.drop k = use[k] :: use.drop (k + 1)) := hide (List.drop_eq_getElem_cons hlt)
            have hWt := hB k q hQ
            have HE : Hid (wants.drop k = q :: wants.drop (k + 1)) := hide (drop_at hQ)
            clear hQ
            have hx : use[k].length ≤ 1048576 := HP.out _ (List.getElem_mem hlt)
            generalize use[k] = t at *
            obtain ⟨b2, off2, rfl, hbl2, hd1⟩ := hWt
            have HT := hide hT
            have HL := hide hL
            have hz : (0 : Int) ≤ k := by omega
            have hz2 : (k : Int) < use.length := by omega
            have hz3 : (k : Int) < wants.length := by omega
            have hlen := takeDoL_len cur (k : Int) t
            clear hL hT
            cases hK : takeOkL cur (k : Int) t with
            | false =>
              have HK := hide hK
              have H3 : Hid (useOkL l wants use = false) := hide (by rw [HG.out, HD.out, HE.out, useOkGo, hK]; rfl)
              clear hK hd1
              go_wp2_with fail
              refine (specTakeDo_any _ _ _ _ _ _ _ _ HL.out hcl HT.out hx).mono ?_
              rintro e w2 ⟨v, rfl, hS, hB2⟩
              rw [HK.out]
              have hb2 := next hb hB2
              clear hS
              go_wp2_with fail
              go_quiet (fail)
              go_wp2_with fail
              go_ret
              exact ⟨by rw [H3.out]; rfl, below_drewN hb2 _⟩
            | true =>
              have HK := hide hK
              have HSM := hide (takeOkL_sum hK)
              by_cases hq : sumL t ≤ q
              · have hdq : decide (q < sumW t) = false := decide_eq_false (by rw [HSM.out]; omega)
                have H3 : Hid (useOkL l wants use = useOkGo ((k + 1 : Nat) : Int) (takeDoL cur k t) (wants.drop (k + 1)) (use.drop (k + 1))) := hide (by rw [HG.out, HD.out, HE.out, useOkGo, hK, decide_eq_true hq]; rfl)
                clear hK hq
                go_wp2_with fail
                refine (specTakeDo_any _ _ _ _ _ _ _ _ HL.out hcl HT.out hx).mono ?_
                rintro e w2 ⟨v, rfl, hS, hB2⟩
                rw [HK.out]
                have hb2 := next hb hB2
                have hd2 := (hb2.cell (p := ⟨b2, off2 + k, none⟩) hbl2).trans hd1
                have hc2 := (hB2.cell (p := ⟨b, off + k, none⟩) hbl).trans hc1
                have HT2 := hide (HT.out.below hB2)
                obtain ⟨A', c', rfl, hI'⟩ := hS.form
                have HI' := hide hI'
                clear hS hI' hd1
                go_wp2_with fail
                go_quiet ((go_at_call 53; exact Calls.quiet_of_same (l1Sum_q _ _ _ _ HT2.out hx)))
                go_wp2_with fail
                go_roundw
                case rel => exact ⟨k + 1, _, _, _, hlt, by go_num, rfl, HI'.out, by omega, H3, below_drewN hb2 _⟩
                case measure => simp [intOf]; omega
              · have hdq : decide (q < sumW t) = true := decide_eq_true (by rw [HSM.out]; omega)
                have H3 : Hid (useOkL l wants use = false) := hide (by rw [HG.out, HD.out, HE.out, useOkGo, hK, decide_eq_false hq]; rfl)
                clear hK hq
                go_wp2_with fail
                refine (specTakeDo_any _ _ _ _ _ _ _ _ HL.out hcl HT.out hx).mono ?_
                rintro e w2 ⟨v, rfl, hS, hB2⟩
                rw [HK.out]
                have hb2 := next hb hB2
                have hd2 := (hb2.cell (p := ⟨b2, off2 + k, none⟩) hbl2).trans hd1
                have hc2 := (hB2.cell (p := ⟨b, off + k, none⟩) hbl).trans hc1
                have HT2 := hide (HT.out.below hB2)
                clear hS hd1
                go_wp2_with fail
                go_quiet ((go_at_call 53; exact Calls.quiet_of_same (l1Sum_q _ _ _ _ HT2.out hx)))
                go_wp2_with fail
                go_ret
                exact ⟨by rw [H3.out]; rfl, below_drewN hb2 _⟩
          · have H3 : Hid (useOkL l wants use = true) := hide (by rw [HG.out, List.drop_of_length_le (l := use) (by omega)]; cases wants.drop k <;> rfl)
            clear hL
            go_wp2_with fail
            go_ret
            exact ⟨by rw [H3.out]; rfl, hb⟩
      · have hne : ((use.length : Int) != wants.length) = true := by simp; omega
        have HR : Hid (useOkL l wants use = false) := by unfold useOkL stockOk; rw [hI, hV, decide_eq_false hn]; exact hide rfl
        clear hI hV hn
        go_enter Tryd.func24, Tryd.ntmps24
        go_wp2_with fail
        refine (specLotsValid_any _ _ _ _ hA hl).mono ?_
        rintro e w0 ⟨rfl, hB0⟩
        rw [HI.out]
        go_wp2_with fail
        refine (specWantsValid_any _ _ _ _ (hB.below hB0) hw).mono ?_
        rintro e w1 ⟨rfl, hBx⟩
        rw [HV.out]
        have hB1 := next hB0 hBx
        go_wp2_with fail
        go_ret
        exact ⟨by rw [HR.out]; rfl, hB1⟩
end Go.Proofs.YtndcanllkmfahaaDoor
