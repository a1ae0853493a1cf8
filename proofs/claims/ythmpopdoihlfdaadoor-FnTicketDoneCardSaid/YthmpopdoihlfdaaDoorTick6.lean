/- KitchenValid, NextFire and WorkLeft: contracts of the program and of the reference model.
   Conditions: lists have at most 1048576 elements; the two tables hold what the source says. -/
import Derived.Test.YthmpopdoihlfdaaDoorTick5
namespace Go.Proofs.YthmpopdoihlfdaaDoor
open Go.RowKit Go.ChangeShapes Go.WideShapes Go.ChangeAt Go.Deep

theorem kitchen_bad {l : List (List Order)} (h : l.all ticketOkL = false) : kitchenOkL l = false := by unfold kitchenOkL; rw [h]; simp

set_option maxHeartbeats 1000000 in
theorem implKitchenValid_any (A : Option Addr) (c : Nat) (l : List (List Order)) (w : World) (hA : TicksAt w A l) (hl : l.length ≤ 1048576) (hp : ∀ x ∈ l, x.length ≤ 1048576) (hTP : PiecesAt w) :
    Calls Tryd.prog 38 #[.slice A l.length c] w fun e w' => e = .returned (.bool (kitchenOkL l)) ∧ Below w.heap.size w w' := by
  have HP := hide hp
  clear hp
  by_cases h4 : l.length ≤ 4
  · have hd4 : decide ((4 : Int) < l.length) = false := decide_eq_false (by omega)
    go_enter Tryd.func38, Tryd.ntmps38
    go_wp2_with fail
    go_loopw [10] (fun i wr => ∃ k : Nat, k ≤ l.length ∧ i = .int .i64 k ∧ Hid (l.all ticketOkL = (l.drop k).all ticketOkL) ∧ Below w.heap.size w wr) (fun i _ => l.length - (intOf i).toNat)
    case atStart => exact ⟨0, Nat.zero_le _, rfl, hide rfl, by go_grown⟩
    case round =>
      obtain ⟨k, hk, rfl, HG, hb⟩ := hrel
      have hsz := hb.size
      by_cases hlt : k < l.length
      · obtain ⟨b, off, A', c', rfl, hbl, hc1, hI⟩ := (hA.below hb) k l[k] (List.getElem?_eq_getElem hlt)
        have HD : Hid (l.drop k = l[k] :: l.drop (k + 1)) := hide (List.drop_eq_getElem_cons hlt)
        have hx : l[k].length ≤ 1048576 := HP.out _ (List.getElem_mem hlt)
        generalize l[k] = x at *
        have hz : (0 : Int) ≤ k := by omega
        have hz2 : (k : Int) < l.length := by omega
        have HTP := hide (hTP.below hb)
        cases hv : ticketOkL x with
        | false =>
          have HV := hide hv
          have H3 : Hid (kitchenOkL l = false) := hide (kitchen_bad (all_drop_false HG.out HD.out hv))
          clear hv
          go_wp2_with fail
          refine (implTicketValid_any _ _ _ _ hI hx HTP.out).mono ?_
          rintro e w1 ⟨rfl, hB⟩
          rw [HV.out]
          have hb1 := next hb hB
          go_wp2_with fail
          go_ret
          exact ⟨by rw [H3.out]; rfl, hb1⟩
        | true =>
          have HV := hide hv
          have H3 := hide (all_drop_true HG.out HD.out hv)
          clear hv
          go_wp2_with fail
          refine (implTicketValid_any _ _ _ _ hI hx HTP.out).mono ?_
          rintro e w1 ⟨rfl, hB⟩
          rw [HV.out]
          have hb1 := next hb hB
          go_wp2_with fail
          go_roundw
          case rel => exact ⟨k + 1, hlt, by go_num, H3, hb1⟩
          case measure => simp [intOf]; omega
      · have H3 : Hid (kitchenOkL l = true) := hide (by unfold kitchenOkL; rw [all_drop_end HG.out (by omega), decide_eq_true h4]; rfl)
        go_wp2_with fail
        go_ret
        exact ⟨by rw [H3.out]; rfl, hb⟩
  · have hd4 : decide ((4 : Int) < l.length) = true := decide_eq_true (by omega)
    have H3 : Hid (kitchenOkL l = false) := hide (by unfold kitchenOkL; rw [decide_eq_false h4]; rfl)
    go_enter Tryd.func38, Tryd.ntmps38
    go_wp2_with fail
    go_ret
    exact ⟨by rw [H3.out]; rfl, by go_grown⟩

set_option maxHeartbeats 1000000 in
theorem specKitchenValid_any (A : Option Addr) (c : Nat) (l : List (List Order)) (w : World) (hA : TicksAt w A l) (hl : l.length ≤ 1048576) (hp : ∀ x ∈ l, x.length ≤ 1048576) :
    Calls Tryd.prog 39 #[.slice A l.length c] w fun e w' => e = .returned (.bool (kitchenOkL l)) ∧ Below w.heap.size w w' := by
  have HP := hide hp
  clear hp
  go_enter Tryd.func39, Tryd.ntmps39
  go_wp2_with fail
  go_loopw [3] (fun i wr => ∃ k : Nat, k ≤ l.length ∧ i = .int .i64 k ∧ Hid (l.all ticketOkL = (l.drop k).all ticketOkL) ∧ Below w.heap.size w wr) (fun i _ => l.length - (intOf i).toNat)
  case atStart => exact ⟨0, Nat.zero_le _, rfl, hide rfl, by go_grown⟩
  case round =>
    obtain ⟨k, hk, rfl, HG, hb⟩ := hrel
    have hsz := hb.size
    by_cases hlt : k < l.length
    · obtain ⟨b, off, A', c', rfl, hbl, hc1, hI⟩ := (hA.below hb) k l[k] (List.getElem?_eq_getElem hlt)
      have HD : Hid (l.drop k = l[k] :: l.drop (k + 1)) := hide (List.drop_eq_getElem_cons hlt)
      have hx : l[k].length ≤ 1048576 := HP.out _ (List.getElem_mem hlt)
      generalize l[k] = x at *
      have hz : (0 : Int) ≤ k := by omega
      have hz2 : (k : Int) < l.length := by omega
      cases hv : ticketOkL x with
      | false =>
        have HV := hide hv
        have H3 : Hid (kitchenOkL l = false) := hide (kitchen_bad (all_drop_false HG.out HD.out hv))
        clear hv
        go_wp2_with fail
        refine (specTicketValid_any _ _ _ _ hI hx).mono ?_
        rintro e w1 ⟨rfl, hB⟩
        rw [HV.out]
        have hb1 := next hb hB
        go_wp2_with fail
        go_ret
        exact ⟨by rw [H3.out]; rfl, hb1⟩
      | true =>
        have HV := hide hv
        have H3 := hide (all_drop_true HG.out HD.out hv)
        clear hv
        go_wp2_with fail
        refine (specTicketValid_any _ _ _ _ hI hx).mono ?_
        rintro e w1 ⟨rfl, hB⟩
        rw [HV.out]
        have hb1 := next hb hB
        go_wp2_with fail
        go_roundw
        case rel => exact ⟨k + 1, hlt, by go_num, H3, hb1⟩
        case measure => simp [intOf]; omega
    · have H3 : Hid (kitchenOkL l = decide ((l.length : Int) ≤ 4)) := hide (by
        unfold kitchenOkL
        rw [all_drop_end HG.out (by omega), Bool.and_true]
        exact decide_eq_decide.2 (by omega))
      go_wp2_with fail
      go_ret
      exact ⟨by rw [H3.out]; rfl, hb⟩

theorem nextFire_ok {l : List (List Order)} (h : kitchenOkL l = true) : nextFireL l = nextGo 0 l := by unfold nextFireL; rw [if_pos h]
theorem nextFire_no {l : List (List Order)} (h : kitchenOkL l = false) : nextFireL l = (-1, -1) := by unfold nextFireL; rw [h]; rfl

set_option maxHeartbeats 1000000 in
theorem implNextFire_any (A : Option Addr) (c : Nat) (l : List (List Order)) (w : World) (hA : TicksAt w A l) (hl : l.length ≤ 1048576) (hp : ∀ x ∈ l, x.length ≤ 1048576) (hTP : PiecesAt w) (hTN : NextAt w) :
    Calls Tryd.prog 41 #[.slice A l.length c] w fun e w' => e = .returned (.tuple #[.int .i64 (nextFireL l).1, .int .i64 (nextFireL l).2]) ∧ Below w.heap.size w w' := by
  have HP := hide hp
  cases hv : kitchenOkL l with
  | false =>
    have HV := hide hv
    have HR := hide (nextFire_no hv)
    clear hv
    rw [HR.out]
    go_enter Tryd.func41, Tryd.ntmps41
    go_wp2_with fail
    refine (implKitchenValid_any _ _ _ _ hA hl HP.out hTP).mono ?_
    rintro e w1 ⟨rfl, hB1⟩
    rw [HV.out]
    go_wp2_with fail
    refine bodyPost_ret (results_tmp2 rfl _ _ _) rfl ⟨rfl, hB1⟩
  | true =>
    have HV := hide hv
    have HR := hide (nextFire_ok hv)
    clear hv hp
    rw [HR.out]
    go_enter Tryd.func41, Tryd.ntmps41
    go_wp2_with fail
    refine (implKitchenValid_any _ _ _ _ hA hl HP.out hTP).mono ?_
    rintro e w1 ⟨rfl, hB1⟩
    rw [HV.out]
    go_wp2_with fail
    go_loopw [12] (fun i wr => ∃ k : Nat, k ≤ l.length ∧ i = .int .i64 k ∧ Hid (nextGo 0 l = nextGo k (l.drop k)) ∧ Below w.heap.size w wr) (fun i _ => l.length - (intOf i).toNat)
    case atStart => exact ⟨0, Nat.zero_le _, rfl, hide rfl, hB1⟩
    case round =>
      clear hB1
      obtain ⟨k, hk, rfl, HG, hb⟩ := hrel
      have hsz := hb.size
      by_cases hlt : k < l.length
      · obtain ⟨b, off, A', c', rfl, hbl, hc1, hI⟩ := (hA.below hb) k l[k] (List.getElem?_eq_getElem hlt)
        have HD : Hid (l.drop k = l[k] :: l.drop (k + 1)) := hide (List.drop_eq_getElem_cons hlt)
        have hx : l[k].length ≤ 1048576 := HP.out _ (List.getElem_mem hlt)
        generalize l[k] = x at *
        have hz : (0 : Int) ≤ k := by omega
        have hz2 : (k : Int) < l.length := by omega
        have HTP := hide (hTP.below hb)
        have HTN := hide (hTN.below hb)
        cases hm : mayL x with
        | nil =>
          have HM := hide hm
          have H3 : Hid (nextGo 0 l = nextGo (k + 1) (l.drop (k + 1))) := hide (by rw [HG.out, HD.out, nextGo_nil hm])
          clear hm
          go_wp2_with fail
          refine (implTicketMay_any _ _ _ _ hI hx HTP.out HTN.out).mono ?_
          rintro e w2 ⟨u, rfl, hS, hB⟩
          rw [HM.out] at hS
          obtain ⟨A2, c2, rfl, -⟩ := IntSl.form hS
          have hb2 := next hb hB
          simp only [List.length_nil] at hS ⊢
          clear hS
          go_wp2_with fail
          go_roundw
          case rel => exact ⟨k + 1, hlt, by go_num, H3, hb2⟩
          case measure => simp [intOf]; omega
        | cons i m =>
          have HM := hide hm
          have H3 : Hid (nextGo 0 l = ((k : Int), i)) := hide (by rw [HG.out, HD.out, nextGo_cons hm])
          clear hm
          go_wp2_with fail
          refine (implTicketMay_any _ _ _ _ hI hx HTP.out HTN.out).mono ?_
          rintro e w2 ⟨u, rfl, hS, hB⟩
          rw [HM.out] at hS
          obtain ⟨A2, c2, rfl, hN, -⟩ := IntSl.form hS
          obtain ⟨b2, off2, rfl, hbl2, hd1⟩ := hN 0 i rfl
          have hb2 := next hb hB
          have hlen : (0 : Int) < ((i :: m).length : Nat) := by rw [List.length_cons]; omega
          have hlen2 : ((i :: m).length : Int) ≠ 0 := by omega
          obtain ⟨n, hn⟩ : ∃ n, (i :: m).length = n := ⟨_, rfl⟩
          rw [hn] at hlen hlen2 ⊢
          rw [Nat.add_zero] at hd1
          clear hS hN hn
          go_wp2_with fail
          go_quiet (fail)
          go_wp2_with fail
          refine bodyPost_ret (results_tmp2 rfl _ _ _) rfl ⟨by rw [H3.out]; rfl, below_drewN hb2 _⟩
      · have H3 : Hid (nextGo 0 l = (-1, -1)) := hide (by rw [HG.out, List.drop_of_length_le (by omega), nextGo])
        go_wp2_with fail
        refine bodyPost_ret (results_tmp2 rfl _ _ _) rfl ⟨by rw [H3.out]; rfl, hb⟩

set_option maxHeartbeats 1000000 in
theorem specNextFire_any (A : Option Addr) (c : Nat) (l : List (List Order)) (w : World) (hA : TicksAt w A l) (hl : l.length ≤ 1048576) (hp : ∀ x ∈ l, x.length ≤ 1048576) :
    Calls Tryd.prog 42 #[.slice A l.length c] w fun e w' => e = .returned (.tuple #[.int .i64 (nextFireL l).1, .int .i64 (nextFireL l).2]) ∧ Below w.heap.size w w' := by
  have HP := hide hp
  clear hp
  cases hv : kitchenOkL l with
  | false =>
    have HV := hide hv
    have HR := hide (nextFire_no hv)
    clear hv
    rw [HR.out]
    go_enter Tryd.func42, Tryd.ntmps42
    go_wp2_with fail
    go_loopw [4] (fun i wr => i = .int .i64 0 ∧ Below w.heap.size w wr) (fun i _ => 0)
    case atStart => exact ⟨rfl, by go_grown⟩
    case round =>
      obtain ⟨rfl, hb⟩ := hrel
      have hsz := hb.size
      by_cases hlt : 0 < l.length
      · have hz2 : (0 : Int) < l.length := by omega
        have HA := hide (hA.below hb)
        go_wp2_with fail
        refine (specKitchenValid_any _ _ _ _ HA.out hl HP.out).mono ?_
        rintro e w1 ⟨rfl, hB⟩
        rw [HV.out]
        have hb1 := next hb hB
        go_wp2_with fail
        refine bodyPost_ret (results_tmp2 rfl _ _ _) rfl ⟨rfl, hb1⟩
      · have hz2 : ¬ (0 : Int) < l.length := by omega
        go_wp2_with fail
        refine bodyPost_ret (results_tmp2 rfl _ _ _) rfl ⟨rfl, hb⟩
  | true =>
    have HV := hide hv
    have HR := hide (nextFire_ok hv)
    clear hv
    rw [HR.out]
    go_enter Tryd.func42, Tryd.ntmps42
    go_wp2_with fail
    go_loopw [4] (fun i wr => ∃ k : Nat, k ≤ l.length ∧ i = .int .i64 k ∧ Hid (nextGo 0 l = nextGo k (l.drop k)) ∧ Below w.heap.size w wr) (fun i _ => l.length - (intOf i).toNat)
    case atStart => exact ⟨0, Nat.zero_le _, rfl, hide rfl, by go_grown⟩
    case round =>
      obtain ⟨k, hk, rfl, HG, hb⟩ := hrel
      have hsz := hb.size
      by_cases hlt : k < l.length
      · have HA := hide (hA.below hb)
        have HD : Hid (l.drop k = l[k] :: l.drop (k + 1)) := hide (List.drop_eq_getElem_cons hlt)
        have hx : l[k].length ≤ 1048576 := HP.out _ (List.getElem_mem hlt)
        have hat := List.getElem?_eq_getElem hlt
        generalize l[k] = x at *
        have HX := hide hat
        clear hat
        have hz : (0 : Int) ≤ k := by omega
        have hz2 : (k : Int) < l.length := by omega
        go_wp2_with fail
        refine (specKitchenValid_any _ _ _ _ HA.out hl HP.out).mono ?_
        rintro e w1 ⟨rfl, hB⟩
        rw [HV.out]
        have hb1 := next hb hB
        obtain ⟨b, off, A', c', rfl, hbl, hc1, hI⟩ := (hA.below hb1) k x HX.out
        cases hm : mayL x with
        | nil =>
          have HM := hide hm
          have H3 : Hid (nextGo 0 l = nextGo (k + 1) (l.drop (k + 1))) := hide (by rw [HG.out, HD.out, nextGo_nil hm])
          clear hm
          go_wp2_with fail
          refine (specTicketMay_any _ _ _ _ hI hx).mono ?_
          rintro e w2 ⟨u, rfl, hS, hB⟩
          rw [HM.out] at hS
          obtain ⟨A2, c2, rfl, -⟩ := IntSl.form hS
          have hb2 := next hb1 hB
          simp only [List.length_nil] at hS ⊢
          clear hS
          go_wp2_with fail
          go_roundw
          case rel => exact ⟨k + 1, hlt, by go_num, H3, hb2⟩
          case measure => simp [intOf]; omega
        | cons i m =>
          have HM := hide hm
          have H3 : Hid (nextGo 0 l = ((k : Int), i)) := hide (by rw [HG.out, HD.out, nextGo_cons hm])
          clear hm
          go_wp2_with fail
          refine (specTicketMay_any _ _ _ _ hI hx).mono ?_
          rintro e w2 ⟨u, rfl, hS, hB⟩
          rw [HM.out] at hS
          obtain ⟨A2, c2, rfl, hN, -⟩ := IntSl.form hS
          obtain ⟨b2, off2, rfl, hbl2, hd1⟩ := hN 0 i rfl
          have hb2 := next hb1 hB
          have hlen : (0 : Int) < ((i :: m).length : Nat) := by rw [List.length_cons]; omega
          have hlen2 : ((i :: m).length : Int) ≠ 0 := by omega
          obtain ⟨n, hn⟩ : ∃ n, (i :: m).length = n := ⟨_, rfl⟩
          rw [hn] at hlen hlen2 ⊢
          rw [Nat.add_zero] at hd1
          clear hS hN hn
          go_wp2_with fail
          go_quiet (fail)
          go_wp2_with fail
          refine bodyPost_ret (results_tmp2 rfl _ _ _) rfl ⟨by rw [H3.out]; rfl, below_drewN hb2 _⟩
      · have H3 : Hid (nextGo 0 l = (-1, -1)) := hide (by rw [HG.out, List.drop_of_length_le (by omega), nextGo])
        have hz2 : ¬ (k : Int) < l.length := by omega
        go_wp2_with fail
        refine bodyPost_ret (results_tmp2 rfl _ _ _) rfl ⟨by rw [H3.out]; rfl, hb⟩
end Go.Proofs.YthmpopdoihlfdaaDoor
