/- KitchenValid, NextFire and WorkLeft: contracts of the program and of the reference model.
   Conditions: lists have at most 1048576 elements; the two tables hold what the source says. -/
import Derived.Test.YtmepnilnlpoodaaDoorTick5
namespace Go.Proofs.YtmepnilnlpoodaaDoor
open Go.RowKit Go.ChangeShapes Go.WideShapes Go.ChangeAt Go.Deep

theorem kitchen_bad {l : List (List Order)} (h : l.all ticketOkL = false) : kitchenOkL l = false := by unfold kitchenOkL; rw [h]; simp

set_option maxHeartbeats 1000000 in
theorem implKitchenValid_any (A : Option Addr) (c : Nat) (l : List (List Order)) (w : World) (hA : TicksAt w A l) (hl : l.length ≤ 1048576) (hp : ∀ x ∈ l, x.length ≤ 1048576) (hTP : PiecesAt w) :
    Calls Tryd.prog 101 #[.slice A l.length c] w fun e w' => e = .returned (.bool (kitchenOkL l)) ∧ Below w.heap.size w w' := by
  have HP := hide hp
  clear hp
  by_cases h4 : l.length ≤ 4
  · have hd4 : decide ((4 : Int) < l.length) = false := decide_eq_false (by omega)
    go_enter Tryd.func101, Tryd.ntmps101
    go_wp2_with fail
    go_loopw [10] (fun i wr => ∃ k : Nat, k ≤ l.length ∧ i = .int .i64 k ∧ Hid (l.all ticketOkL = (l.drop k).all ticketOkL) ∧ Below w.heap.size w wr) (fun i _ => l.length - (intOf i).toNat)
    case atStart => exact ⟨0, Nat.zero_le _, rfl, hide rfl, by go_grown⟩
    case round =>
      obtain ⟨k, hk, rfl, HG, hb⟩ := hrel
      have hsz := hb.size
      by_cases hlt : k < l.length
      · obtain ⟨b, off, A', c', rfl, hbl, hc1, hI⟩ := (hA.below hb) k l[k] (List.getElem?_eq_getElem hlt)
        have HD : Hid (l.drop k = l[k] :: l.drop (k + 1)) := hide (List.drop_eq_getElem_cons hlt)
        have hx : l[k].length ≤ 1048576 := HP.out _ (List.getElem_mem hlt)
        generalize l[k] = x at *
        have hz : (0 : Int) ≤ k := by omega
        have hz2 : (k : Int) < l.length := by omega
        have HTP := hide (hTP.below hb)
        cases hv : ticketOkL x with
        | false =>
          have HV := hide hv
          have H3 : Hid (kitchenOkL l = false) := hide (kitchen_bad (all_drop_false HG.out HD.out hv))
          clear hv
          go_wp2_with fail
          refine (implTicketValid_any _ _ _ _ hI hx HTP.out).mono ?_
          rintro e w1 ⟨rfl, hB⟩
          rw [HV.out]
          have hb1 := next hb hB
          go_wp2_with fail
          go_ret
          exact ⟨by rw [H3.out]; rfl, hb1⟩
        | true =>
          have HV := hide hv
          have H3 := hide (all_drop_true HG.out HD.out hv)
          clear hv
          go_wp2_with fail
          refine (implTicketValid_any _ _ _ _ hI hx HTP.out).mono ?_
          rintro e w1 ⟨rfl, hB⟩
          rw [HV.out]
          have hb1 := next hb hB
          go_wp2_with fail
          go_roundw
          case rel => exact ⟨k + 1, hlt, by go_num, H3, hb1⟩
          case measure => simp [intOf]; omega
      · have H3 : Hid (kitchenOkL l = true) := hide (by unfold kitchenOkL; rw [all_drop_end HG.out (by omega), decide_eq_true h4]; rfl)
        go_wp2_with fail
        go_ret
        exact ⟨by rw [H3.out]; rfl, hb⟩
  · have hd4 : decide ((4 : Int) < l.length) = true := decide_eq_true (by omega)
    have H3 : Hid (kitchenOkL l = false) := hide (by unfold kitchenOkL; rw [decide_eq_false h4]; rfl)
    go_enter Tryd.func101, Tryd.ntmps101
    go_wp2_with fail
    go_ret
    exact ⟨by rw [H3.out]; rfl, by go_grown⟩

set_option maxHeartbeats 1000000 in
theorem specKitchenValid_any (A : Option Addr) (c : Nat) (l : List (List Order)) (w : World) (hA : TicksAt w A l) (hl : l.length ≤ 1048576) (hp : ∀ x ∈ l, x.length ≤ 1048576) :
    Calls Tryd.prog 69 #[.slice A l.length c] w fun e w' => e = .returned (.bool (kitchenOkL l)) ∧ Below w.heap.size w w' := by
  have HP := hide hp
  clear hp
  go_enter Tryd.func69, Tryd.ntmps69
  go_wp2_with fail
  go_loopw [3] (fun i wr => ∃ k : Nat, k ≤ l.length ∧ i = .int .i64 k ∧ Hid (l.all ticketOkL = (l.drop k).all ticketOkL) ∧ Below w.heap.size w wr) (fun i _ => l.length - (intOf i).toNat)
  case atStart => exact ⟨0, Nat.zero_le _, rfl, hide rfl, by go_grown⟩
  case round =>
    obtain ⟨k, hk, rfl, HG, hb⟩ := hrel
    have hsz := hb.size
    by_cases hlt : k < l.length
    · obtain ⟨b, off, A', c', rfl, hbl, hc1, hI⟩ := (hA.below hb) k l[k] (List.getElem?_eq_getElem hlt)
      have HD : Hid (l.drop k = l[k] :: l.drop (k + 1)) := hide (List.drop_eq_getElem_cons hlt)
      have hx : l[k].length ≤ 1048576 := HP.out _ (List.getElem_mem hlt)
      generalize l[k] = x at *
      have hz : (0 : Int) ≤ k := by omega
      have hz2 : (k : Int) < l.length := by omega
      cases hv : ticketOkL x with
      | false =>
        have HV := hide hv
        have H3 : Hid (kitchenOkL l = false) := hide (kitchen_bad (all_drop_false HG.out HD.out hv))
        clear hv
        go_wp2_with fail
        refine (specTicketValid_any _ _ _ _ hI hx).mono ?_
        rintro e w1 ⟨rfl, hB⟩
        rw [HV.out]
        have hb1 := next hb hB
        go_wp2_with fail
        go_ret
        exact ⟨by rw [H3.out]; rfl, hb1⟩
      | true =>
        have HV := hide hv
        have H3 := hide (all_drop_true HG.out HD.out hv)
        clear hv
        go_wp2_with fail
        refine (specTicketValid_any _ _ _ _ hI hx).mono ?_
        rintro e w1 ⟨rfl, hB⟩
        rw [HV.out]
        have hb1 := next hb hB
        go_wp2_with fail
        go_roundw
        case rel => exact ⟨k + 1, hlt, by go_num, H3, hb1⟩
        case measure => simp [intOf]; omega
    · have H3 : Hid (kitchenOkL l = decide ((l.length : Int) ≤ 4)) := hide (by
        unfold kitchenOkL
        rw [all_drop_end HG.out (by omega), Bool.and_true]
        exact decide_eq_decide.2 (by omega))
      go_wp2_with fail
      go_ret
      exact ⟨by rw [H3.out]; rfl, hb⟩

theorem nextFire_ok {l : List (List Order)} (h : kitchenOkL l = true) : nextFireL l = nextGo 0 l := by unfold nextFireL; rw [if_pos h]
theorem nextFire_no {l : List (List Order)} (h : kitchenOkL l = false) : nextFireL l = (-1, -1) := by unfold nextFireL; rw [h]; rfl

end Go.Proofs.YtmepnilnlpoodaaDoor
