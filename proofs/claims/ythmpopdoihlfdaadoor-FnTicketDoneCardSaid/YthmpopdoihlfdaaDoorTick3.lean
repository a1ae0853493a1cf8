/- TicketCourse and TicketDone: contracts of the program and of the reference model.
   Conditions: lists have at most 1048576 elements; piecesLeft holds what the source says. -/
import Derived.Test.YthmpopdoihlfdaaDoorTick2
namespace Go.Proofs.YthmpopdoihlfdaaDoor
open Go.RowKit

set_option maxHeartbeats 400000 in
theorem implTicketCourse_any (A : Option Addr) (c : Nat) (ls : List Order) (w : World) (hA : OrdersAt w A ls) (hl : ls.length ≤ 1048576) (hT : PiecesAt w) :
    Calls Tryd.prog 30 #[.slice A ls.length c] w fun e w' => e = .returned (.int .i64 (courseL ls)) ∧ Below w.heap.size w w' := by
  cases hv : ticketOkL ls with
  | false =>
    have HV := hide hv
    have HR : Hid (courseL ls = -1) := hide (by unfold courseL; rw [hv]; rfl)
    clear hv
    go_enter Tryd.func30, Tryd.ntmps30
    go_wp2_with fail
    refine (implTicketValid_any _ _ _ _ hA hl hT).mono ?_
    rintro e w1 ⟨rfl, hB1⟩
    rw [HV.out]
    go_wp2_with fail
    go_ret
    exact ⟨by rw [HR.out]; rfl, hB1⟩
  | true =>
    have HV := hide hv
    have HR : Hid (courseL ls = leastL ls) := hide (by unfold courseL; rw [hv]; rfl)
    have HIN := hide (ticketOk_in hv)
    clear hv
    go_enter Tryd.func30, Tryd.ntmps30
    go_wp2_with fail
    refine (implTicketValid_any _ _ _ _ hA hl hT).mono ?_
    rintro e w1 ⟨rfl, hB1⟩
    rw [HV.out]
    go_wp2_with fail
    refine (leastOpen_any _ _ _ _ (hA.below hB1) hl HIN.out (hT.below hB1)).mono ?_
    rintro e w2 ⟨rfl, hB2⟩
    have hb2 := next hB1 hB2
    go_wp2_with fail
    go_ret
    exact ⟨by rw [HR.out]; rfl, hb2⟩

set_option maxHeartbeats 400000 in
theorem implTicketDone_any (A : Option Addr) (c : Nat) (ls : List Order) (w : World) (hA : OrdersAt w A ls) (hl : ls.length ≤ 1048576) (hT : PiecesAt w) :
    Calls Tryd.prog 22 #[.slice A ls.length c] w fun e w' => e = .returned (.bool (doneL ls)) ∧ Below w.heap.size w w' := by
  cases hv : ticketOkL ls with
  | false =>
    have HV := hide hv
    have HR : Hid (doneL ls = false) := hide (by unfold doneL; rw [hv]; rfl)
    clear hv
    go_enter Tryd.func22, Tryd.ntmps22
    go_wp2_with fail
    refine (implTicketValid_any _ _ _ _ hA hl hT).mono ?_
    rintro e w1 ⟨rfl, hB1⟩
    rw [HV.out]
    go_wp2_with fail
    go_ret
    exact ⟨by rw [HR.out]; rfl, hB1⟩
  | true =>
    have HV := hide hv
    have HR : Hid (doneL ls = decide (leastL ls < 0)) := hide (by unfold doneL courseL; rw [hv]; rfl)
    have HIN := hide (ticketOk_in hv)
    clear hv
    go_enter Tryd.func22, Tryd.ntmps22
    go_wp2_with fail
    refine (implTicketValid_any _ _ _ _ hA hl hT).mono ?_
    rintro e w1 ⟨rfl, hB1⟩
    rw [HV.out]
    go_wp2_with fail
    refine (leastOpen_any _ _ _ _ (hA.below hB1) hl HIN.out (hT.below hB1)).mono ?_
    rintro e w2 ⟨rfl, hB2⟩
    have hb2 := next hB1 hB2
    go_wp2_with fail
    go_ret
    exact ⟨by rw [HR.out]; rfl, hb2⟩

set_option maxHeartbeats 1000000 in
theorem specTicketCourse_any (A : Option Addr) (c : Nat) (ls : List Order) (w : World) (hA : OrdersAt w A ls) (hl : ls.length ≤ 1048576) :
    Calls Tryd.prog 34 #[.slice A ls.length c] w fun e w' => e = .returned (.int .i64 (courseL ls)) ∧ Below w.heap.size w w' := by
  have hR : -1 ≤ courseL ls ∧ courseL ls ≤ 2 := courseL_range ls
  cases hv : ticketOkL ls with
  | false =>
    have HV := hide hv
    have HR : Hid (courseL ls = -1) := hide (by unfold courseL; rw [hv]; rfl)
    clear hv hR
    go_enter Tryd.func34, Tryd.ntmps34
    go_wp2_with fail
    go_loopw [3, 4] (fun sv i wr => i = .int .i64 0 ∧ sv = .int .i64 (-1) ∧ Below w.heap.size w wr) (fun _ i _ => 0)
    case atStart => exact ⟨rfl, rfl, by go_grown⟩
    case round =>
      obtain ⟨rfl, rfl, hb⟩ := hrel
      have hsz := hb.size
      by_cases hlt : 0 < ls.length
      · have hz2 : (0 : Int) < ls.length := by omega
        have HA := hide (hA.below hb)
        go_wp2_with fail
        refine (specTicketValid_any _ _ _ _ HA.out hl).mono ?_
        rintro e w1 ⟨rfl, hB⟩
        rw [HV.out]
        have hb1 := next hb hB
        go_wp2_with fail
        go_ret
        exact ⟨by rw [HR.out]; rfl, hb1⟩
      · have hz2 : ¬ (0 : Int) < ls.length := by omega
        go_wp2_with fail
        go_ret
        exact ⟨by rw [HR.out]; rfl, hb⟩
  | true =>
    have HV := hide hv
    have HR : Hid (courseL ls = leastL ls) := hide (by unfold courseL; rw [hv]; rfl)
    have HIN := hide (ticketOk_in hv)
    clear hv hR
    go_enter Tryd.func34, Tryd.ntmps34
    go_wp2_with fail
    go_loopw [3, 4] (fun sv i wr => ∃ (k : Nat) (a : Int), k ≤ ls.length ∧ i = .int .i64 k ∧ sv = .int .i64 a ∧ -1 ≤ a ∧ a ≤ 2 ∧ Hid (leastL ls = leastGo a (ls.drop k)) ∧ Below w.heap.size w wr) (fun _ i _ => ls.length - (intOf i).toNat)
    case atStart => exact ⟨0, -1, Nat.zero_le _, rfl, rfl, by omega, by omega, hide rfl, by go_grown⟩
    case round =>
      obtain ⟨k, a, hk, rfl, rfl, ha, ha2, HG, hb⟩ := hrel
      have hsz := hb.size
      by_cases hlt : k < ls.length
      · have HA := hide (hA.below hb)
        have HD : Hid (ls.drop k = ls[k] :: ls.drop (k + 1)) := hide (List.drop_eq_getElem_cons hlt)
        have hin1 := (orderIn_iff.1 (HIN.out _ (List.getElem_mem hlt))).1
        have hat := List.getElem?_eq_getElem hlt
        generalize ls[k] = p at *
        have HP := hide hat
        clear hat
        have HG1 : Hid (leastL ls = leastGo (leastStep a p) (ls.drop (k + 1))) := hide (by rw [HG.out, HD.out, leastGo])
        have hz : (0 : Int) ≤ k := by omega
        have hz2 : (k : Int) < ls.length := by omega
        go_wp2_with fail
        refine (specTicketValid_any _ _ _ _ HA.out hl).mono ?_
        rintro e w1 ⟨rfl, hB⟩
        rw [HV.out]
        have hb1 := next hb hB
        obtain ⟨b, off, rfl, hbl, hc1, hc2⟩ := (hA.below hb1) k p HP.out
        by_cases h3 : p.state < 3
        · have hd3 : decide (p.state < 3) = true := decide_eq_true h3
          have ho : openO p = true := hd3
          by_cases h1 : a < 0
          · have HS := hide (leastStep_first (a := a) ho h1)
            have hd : decide (a < 0) = true := decide_eq_true h1
            clear ho
            go_wp2_with fail
            go_roundw
            case rel => exact ⟨k + 1, p.course, hlt, by go_num, rfl, by omega, by omega, by rw [HS.out] at HG1; exact HG1, hb1⟩
            case measure => simp [intOf]; omega
          · have hd : decide (a < 0) = false := decide_eq_false h1
            by_cases h2 : p.course < a
            · have HS := hide (leastStep_less (a := a) ho h2)
              have hd2 : decide (p.course < a) = true := decide_eq_true h2
              clear ho
              go_wp2_with fail
              go_roundw
              case rel => exact ⟨k + 1, p.course, hlt, by go_num, rfl, by omega, by omega, by rw [HS.out] at HG1; exact HG1, hb1⟩
              case measure => simp [intOf]; omega
            · have HS := hide (leastStep_more (a := a) (o := p) h1 h2)
              have hd2 : decide (p.course < a) = false := decide_eq_false h2
              clear ho
              go_wp2_with fail
              go_roundw
              case rel => exact ⟨k + 1, a, hlt, by go_num, rfl, ha, ha2, by rw [HS.out] at HG1; exact HG1, hb1⟩
              case measure => simp [intOf]; omega
        · have hd3 : decide (p.state < 3) = false := decide_eq_false h3
          have HS := hide (leastStep_no (a := a) (o := p) hd3)
          go_wp2_with fail
          go_roundw
          case rel => exact ⟨k + 1, a, hlt, by go_num, rfl, ha, ha2, by rw [HS.out] at HG1; exact HG1, hb1⟩
          case measure => simp [intOf]; omega
      · have H3 : Hid (courseL ls = a) := hide (by rw [HR.out, HG.out, List.drop_of_length_le (by omega), leastGo])
        have hz2 : ¬ (k : Int) < ls.length := by omega
        go_wp2_with fail
        go_ret
        exact ⟨by rw [H3.out]; rfl, hb⟩

set_option maxHeartbeats 400000 in
theorem specTicketDone_any (A : Option Addr) (c : Nat) (ls : List Order) (w : World) (hA : OrdersAt w A ls) (hl : ls.length ≤ 1048576) :
    Calls Tryd.prog 36 #[.slice A ls.length c] w fun e w' => e = .returned (.bool (doneL ls)) ∧ Below w.heap.size w w' := by
  cases hv : ticketOkL ls with
  | false =>
    have HV := hide hv
    have HR : Hid (doneL ls = false) := hide (by unfold doneL; rw [hv]; rfl)
    clear hv
    go_enter Tryd.func36, Tryd.ntmps36
    go_wp2_with fail
    refine (specTicketValid_any _ _ _ _ hA hl).mono ?_
    rintro e w1 ⟨rfl, hB1⟩
    rw [HV.out]
    go_wp2_with fail
    go_ret
    exact ⟨by rw [HR.out]; rfl, hB1⟩
  | true =>
    have HV := hide hv
    have HR : Hid (doneL ls = decide (courseL ls < 0)) := hide (by unfold doneL; rw [hv]; rfl)
    clear hv
    go_enter Tryd.func36, Tryd.ntmps36
    go_wp2_with fail
    refine (specTicketValid_any _ _ _ _ hA hl).mono ?_
    rintro e w1 ⟨rfl, hB1⟩
    rw [HV.out]
    go_wp2_with fail
    refine (specTicketCourse_any _ _ _ _ (hA.below hB1) hl).mono ?_
    rintro e w2 ⟨rfl, hB2⟩
    have hb2 := next hB1 hB2
    go_wp2_with fail
    go_ret
    exact ⟨by rw [HR.out]; rfl, hb2⟩
end Go.Proofs.YthmpopdoihlfdaaDoor
