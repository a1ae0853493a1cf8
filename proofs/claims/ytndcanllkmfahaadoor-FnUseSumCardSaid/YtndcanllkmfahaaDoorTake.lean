/- Contracts of TakeOk, of the program and of the reference model.
   Conditions: lists have at most 1048576 elements. -/
import Derived.Test.YtndcanllkmfahaaDoorStock
namespace Go.Proofs.YtndcanllkmfahaaDoor
open Go.RowKit

set_option maxHeartbeats 1000000 in
theorem implTakeOk_any (A B : Option Addr) (c d : Nat) (l : List Lot) (day : Int) (take : List Int) (w : World) (hA : LotsAt w A l) (hl : l.length ≤ 1048576) (hT : IntsAt w B take) (_ht : take.length ≤ 1048576) :
    Calls Tryd.prog 12 #[.slice A l.length c, .int .i64 day, .slice B take.length d] w fun e w' => e = .returned (.bool (takeOkL l day take)) ∧ Below w.heap.size w w' := by
  cases hI : lotsOk l with
  | false =>
    have HI := hide hI
    have HR : Hid (takeOkL l day take = false) := by unfold takeOkL; rw [hI]; exact hide rfl
    clear hI
    go_enter Tryd.func12, Tryd.ntmps12
    go_wp2_with fail
    refine (implLotsValid_any _ _ _ _ hA hl).mono ?_
    rintro e w1 ⟨rfl, hB1⟩
    rw [HI.out]
    go_wp2_with fail
    go_ret
    exact ⟨by rw [HR.out]; rfl, hB1⟩
  | true =>
    have HI := hide hI
    have h5 := lotsOk_len hI
    by_cases hn : take.length = l.length
    · have hne : ((take.length : Int) != l.length) = false := by simp [hn]
      have HR : Hid (takeOkL l day take = takeGo day l take) := by unfold takeOkL; rw [hI, decide_eq_true hn]; exact hide rfl
      have hn1 : take.length ≤ l.length := by omega
      have hn2 : l.length ≤ take.length := by omega
      clear hI hn
      go_enter Tryd.func12, Tryd.ntmps12
      go_wp2_with fail
      refine (implLotsValid_any _ _ _ _ hA hl).mono ?_
      rintro e w1 ⟨rfl, hB1⟩
      rw [HI.out]
      go_wp2_with fail
      go_loopw [21] (fun i wr => ∃ k : Nat, k ≤ l.length ∧ i = .int .i64 k ∧ Hid (takeGo day l take = takeGo day (l.drop k) (take.drop k)) ∧ Below w.heap.size w wr) (fun i _ => l.length - (intOf i).toNat)
      case atStart => exact ⟨0, Nat.zero_le _, rfl, hide rfl, hB1⟩
      case round =>
        obtain ⟨k, hk, rfl, HG, hb⟩ := hrel
        have hsz := hb.size
        by_cases hlt : k < l.length
        · obtain ⟨b, off, rfl, hbl, hc1, hc2⟩ := (hA.below hb) k l[k] (List.getElem?_eq_getElem hlt)
          obtain ⟨b2, off2, rfl, hbl2, hd1⟩ := hT k (take[k]'(by omega)) (List.getElem?_eq_getElem (by omega))
          have HD : Hid (l.drop k = l[k] :: l.drop (k + 1)) := hide (List.drop_eq_getElem_cons hlt)
          have HE : Hid (take.drop k = (take[k]'(by omega)) :: take.drop (k + 1)) := hide (List.drop_eq_getElem_cons (by omega))
          generalize l[k] = x at *
          generalize (take[k]'(by omega)) = t at *
          have hz : (0 : Int) ≤ k := by omega
          have hz2 : (k : Int) < l.length := by omega
          have hz3 : (k : Int) < take.length := by omega
          have hb0 : Below w.heap.size w (wr.alloc (.cells #[.int .i64 x.many, .int .i64 x.last] 36)) := by go_grown
          have HC : Hid (∀ W, Below (wr.heap.size + 1) (wr.alloc (.cells #[.int .i64 x.many, .int .i64 x.last] 36)) W → W.cell? ⟨b2, off2 + k, none⟩ = some (.int .i64 t) ∧ W.cell? ⟨wr.heap.size, 0, none⟩ = some (.int .i64 x.many) ∧ W.cell? ⟨wr.heap.size, 1, none⟩ = some (.int .i64 x.last)) := hide (fun W hB => by
            refine ⟨(hB.cell (p := ⟨b2, off2 + k, none⟩) (by show b2 < _; omega)).trans ((hb0.cell (p := ⟨b2, off2 + k, none⟩) hbl2).trans hd1), (hB.cell (p := ⟨wr.heap.size, 0, none⟩) (by simp)).trans ?_, (hB.cell (p := ⟨wr.heap.size, 1, none⟩) (by simp)).trans ?_⟩
            · rw [cell_of_row _ _ _ _ _ _ (heap_alloc_new wr _)]; rfl
            · rw [cell_of_row _ _ _ _ _ _ (heap_alloc_new wr _)]; rfl)
          cases h1 : inR t 0 (usab x day) with
          | false =>
            have H1 := hide h1
            have H3 : Hid (takeOkL l day take = false) := hide (by rw [HR.out, HG.out, HD.out, HE.out, takeGo, h1]; rfl)
            clear h1 hd1
            go_wp2_with fail
            go_region_held3 (fun W => W.cell? ⟨b2, off2 + k, none⟩ = some (.int .i64 t) ∧ W.cell? ⟨wr.heap.size, 0, none⟩ = some (.int .i64 x.many) ∧ W.cell? ⟨wr.heap.size, 1, none⟩ = some (.int .i64 x.last))
              (first | exact HC.out _ (Below.refl _ _).drew | exact HC.out _ ((Below.refl _ _).drew.trans (hB.mono (by simp))))
              (first | (go_at_call 47; refine (usable_any _ _ _).mono ?_; rintro e W1 ⟨rfl, hB⟩) | (go_at_call 46; refine (inRange_is _ _ _ _ H1 _).mono ?_; rintro e W2 ⟨rfl, rfl⟩))
            all_goals
              have hb3 : Below w.heap.size w W1 := hb0.drew.trans (hB.mono (by simp; omega))
              go_wp2_with fail
              go_ret
              exact ⟨by rw [H3.out]; rfl, hb3⟩
          | true =>
            have H1 := hide h1
            have H3 : Hid (takeGo day l take = takeGo day (l.drop (k + 1)) (take.drop (k + 1))) := hide (by rw [HG.out, HD.out, HE.out, takeGo, h1]; rfl)
            clear h1 hd1
            go_wp2_with fail
            go_region_held3 (fun W => W.cell? ⟨b2, off2 + k, none⟩ = some (.int .i64 t) ∧ W.cell? ⟨wr.heap.size, 0, none⟩ = some (.int .i64 x.many) ∧ W.cell? ⟨wr.heap.size, 1, none⟩ = some (.int .i64 x.last))
              (first | exact HC.out _ (Below.refl _ _).drew | exact HC.out _ ((Below.refl _ _).drew.trans (hB.mono (by simp))))
              (first | (go_at_call 47; refine (usable_any _ _ _).mono ?_; rintro e W1 ⟨rfl, hB⟩) | (go_at_call 46; refine (inRange_is _ _ _ _ H1 _).mono ?_; rintro e W2 ⟨rfl, rfl⟩))
            all_goals
              have hb3 : Below w.heap.size w W1 := hb0.drew.trans (hB.mono (by simp; omega))
              go_wp2_with fail
              go_roundw
              case rel => exact ⟨k + 1, hlt, by go_num, H3, hb3⟩
              case measure => simp [intOf]; omega
        · have H3 : Hid (takeOkL l day take = true) := hide (by rw [HR.out, HG.out, List.drop_of_length_le (by omega)]; simp [takeGo])
          go_wp2_with fail
          go_ret
          exact ⟨by rw [H3.out]; rfl, hb⟩
    · have hne : ((take.length : Int) != l.length) = true := by simp; omega
      have HR : Hid (takeOkL l day take = false) := by unfold takeOkL; rw [hI, decide_eq_false hn]; exact hide rfl
      clear hI hn
      go_enter Tryd.func12, Tryd.ntmps12
      go_wp2_with fail
      refine (implLotsValid_any _ _ _ _ hA hl).mono ?_
      rintro e w1 ⟨rfl, hB1⟩
      rw [HI.out]
      go_wp2_with fail
      go_ret
      exact ⟨by rw [HR.out]; rfl, hB1⟩

theorem takeTest {x : Lot} {t day : Int} (hx : 0 ≤ x.many) : inR t 0 (usab x day) = (inR t 0 x.many && !(decide (0 < t) && decide (x.last < day))) := by
  unfold usab inR
  rw [Bool.eq_iff_iff]
  by_cases h : x.last < day
  · simp [h]; omega
  · simp [h]

set_option maxHeartbeats 1000000 in
theorem specTakeOk_any (A B : Option Addr) (c d : Nat) (l : List Lot) (day : Int) (take : List Int) (w : World) (hA : LotsAt w A l) (hl : l.length ≤ 1048576) (hT : IntsAt w B take) (_ht : take.length ≤ 1048576) :
    Calls Tryd.prog 13 #[.slice A l.length c, .int .i64 day, .slice B take.length d] w fun e w' => e = .returned (.bool (takeOkL l day take)) ∧ Below w.heap.size w w' := by
  cases hI : lotsOk l with
  | false =>
    have HI := hide hI
    have HR : Hid (takeOkL l day take = false) := by unfold takeOkL; rw [hI]; exact hide rfl
    clear hI
    go_enter Tryd.func13, Tryd.ntmps13
    go_wp2_with fail
    refine (specLotsValid_any _ _ _ _ hA hl).mono ?_
    rintro e w1 ⟨rfl, hB1⟩
    rw [HI.out]
    go_wp2_with fail
    go_ret
    exact ⟨by rw [HR.out]; rfl, hB1⟩
  | true =>
    have HI := hide hI
    have h5 := lotsOk_len hI
    by_cases hn : take.length = l.length
    · have hne : ((take.length : Int) != l.length) = false := by simp [hn]
      have HR : Hid (takeOkL l day take = takeGo day l take) := by unfold takeOkL; rw [hI, decide_eq_true hn]; exact hide rfl
      have hn1 : take.length ≤ l.length := by omega
      have hn2 : l.length ≤ take.length := by omega
      clear hI hn
      go_enter Tryd.func13, Tryd.ntmps13
      go_wp2_with fail
      refine (specLotsValid_any _ _ _ _ hA hl).mono ?_
      rintro e w1 ⟨rfl, hB1⟩
      rw [HI.out]
      go_wp2_with fail
      go_loopw [7] (fun i wr => ∃ k : Nat, k ≤ l.length ∧ i = .int .i64 k ∧ Hid (takeGo day l take = takeGo day (l.drop k) (take.drop k)) ∧ Below w.heap.size w wr) (fun i _ => l.length - (intOf i).toNat)
      case atStart => exact ⟨0, Nat.zero_le _, rfl, hide rfl, hB1⟩
      case round =>
        obtain ⟨k, hk, rfl, HG, hb⟩ := hrel
        have hsz := hb.size
        by_cases hlt : k < take.length
        · obtain ⟨b, off, rfl, hbl, hc1, hc2⟩ := (hA.below hb) k (l[k]'(by omega)) (List.getElem?_eq_getElem (by omega))
          obtain ⟨b2, off2, rfl, hbl2, hd1⟩ := (hT.below hb) k take[k] (List.getElem?_eq_getElem hlt)
          have HD : Hid (l.drop k = (l[k]'(by omega)) :: l.drop (k + 1)) := hide (List.drop_eq_getElem_cons (by omega))
          have HE : Hid (take.drop k = take[k] :: take.drop (k + 1)) := hide (List.drop_eq_getElem_cons hlt)
          have hx := lotsOk_at HI.out (List.getElem_mem (l := l) (n := k) (by omega))
          generalize (l[k]'(by omega)) = x at *
          generalize take[k] = t at *
          have HT := hide (takeTest (t := t) (day := day) hx.1)
          clear hx
          have hz : (0 : Int) ≤ k := by omega
          have hz2 : (k : Int) < l.length := by omega
          have hz3 : (k : Int) < take.length := by omega
          cases h1 : inR t 0 x.many with
          | false =>
            have H1 := hide h1
            have H3 : Hid (takeOkL l day take = false) := hide (by rw [HR.out, HG.out, HD.out, HE.out, takeGo, HT.out, h1]; rfl)
            clear h1
            go_wp2_with fail
            go_quiet ((go_at_call 48; exact Calls.quiet_of_same (l1In_is _ _ _ _ H1 _)))
            go_wp2_with fail
            go_ret
            exact ⟨by rw [H3.out]; rfl, below_drewN hb _⟩
          | true =>
            have H1 := hide h1
            by_cases hp : 0 < t
            · have hp1 : decide (0 < t) = true := decide_eq_true hp
              by_cases hd : x.last < day
              · have hd1 : decide (x.last < day) = true := decide_eq_true hd
                have H3 : Hid (takeOkL l day take = false) := hide (by rw [HR.out, HG.out, HD.out, HE.out, takeGo, HT.out, h1, hp1, hd1]; rfl)
                clear h1 hp hd
                go_wp2_with fail
                go_quiet ((go_at_call 48; exact Calls.quiet_of_same (l1In_is _ _ _ _ H1 _)))
                go_wp2_with fail
                go_ret
                exact ⟨by rw [H3.out]; rfl, below_drewN hb _⟩
              · have hd1 : decide (x.last < day) = false := decide_eq_false hd
                have H3 : Hid (takeGo day l take = takeGo day (l.drop (k + 1)) (take.drop (k + 1))) := hide (by rw [HG.out, HD.out, HE.out, takeGo, HT.out, h1, hp1, hd1]; rfl)
                clear h1 hp hd
                go_wp2_with fail
                go_quiet ((go_at_call 48; exact Calls.quiet_of_same (l1In_is _ _ _ _ H1 _)))
                go_wp2_with fail
                go_roundw
                case rel => exact ⟨k + 1, by omega, by go_num, H3, below_drewN hb _⟩
                case measure => simp [intOf]; omega
            · have hp1 : decide (0 < t) = false := decide_eq_false hp
              have H3 : Hid (takeGo day l take = takeGo day (l.drop (k + 1)) (take.drop (k + 1))) := hide (by rw [HG.out, HD.out, HE.out, takeGo, HT.out, h1, hp1]; rfl)
              clear h1 hp
              go_wp2_with fail
              go_quiet ((go_at_call 48; exact Calls.quiet_of_same (l1In_is _ _ _ _ H1 _)))
              go_wp2_with fail
              go_roundw
              case rel => exact ⟨k + 1, by omega, by go_num, H3, below_drewN hb _⟩
              case measure => simp [intOf]; omega
        · have H3 : Hid (takeOkL l day take = true) := hide (by rw [HR.out, HG.out, List.drop_of_length_le (l := l) (by omega)]; simp [takeGo])
          go_wp2_with fail
          go_ret
          exact ⟨by rw [H3.out]; rfl, hb⟩
    · have hne : ((take.length : Int) != l.length) = true := by simp; omega
      have HR : Hid (takeOkL l day take = false) := by unfold takeOkL; rw [hI, decide_eq_false hn]; exact hide rfl
      clear hI hn
      go_enter Tryd.func13, Tryd.ntmps13
      go_wp2_with fail
      refine (specLotsValid_any _ _ _ _ hA hl).mono ?_
      rintro e w1 ⟨rfl, hB1⟩
      rw [HI.out]
      go_wp2_with fail
      go_ret
      exact ⟨by rw [HR.out]; rfl, hB1⟩
end Go.Proofs.YtndcanllkmfahaaDoor
