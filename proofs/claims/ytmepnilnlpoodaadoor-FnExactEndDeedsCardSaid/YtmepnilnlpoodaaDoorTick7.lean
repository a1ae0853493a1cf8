/- WorkLeft: contracts of the program and of the reference model.
   Conditions: lists have at most 1048576 elements; piecesLeft holds what the source says. -/
import Derived.Test.YtmepnilnlpoodaaDoorTick6
namespace Go.Proofs.YtmepnilnlpoodaaDoor
open Go.RowKit Go.ChangeShapes Go.WideShapes Go.ChangeAt Go.Deep

theorem left1_state {p : Order} (h : 0 ≤ p.state ∧ p.state ≤ 4) : ∃ s : Nat, p.state = s ∧ s < 5 ∧ piecesZ.getD s 0 = left1 p := by
  refine ⟨p.state.toNat, by omega, by omega, ?_⟩
  unfold left1
  rcases (by omega : p.state = 0 ∨ p.state = 1 ∨ p.state = 2 ∨ p.state = 3 ∨ p.state = 4) with e | e | e | e | e <;> rw [e] <;> rfl
theorem left1_range (p : Order) (h : 0 ≤ p.state) : 0 ≤ left1 p ∧ left1 p ≤ 3 := by
  unfold left1
  split <;> omega
theorem leftT_sum : ∀ (t : List Order), (∀ o ∈ t, orderIn o = true) → 0 ≤ leftT t ∧ leftT t ≤ 3 * t.length := leftT_range
theorem leftK_drop {l : List (List Order)} (h : kitchenOkL l = true) (k : Nat) : 0 ≤ leftK (l.drop k) ∧ leftK (l.drop k) ≤ 18 * (l.drop k).length :=
  leftK_range _ (fun _ ht => kitchenOk_at h (List.mem_of_mem_drop ht))

set_option maxHeartbeats 2000000 in
theorem implWorkLeft_any (A : Option Addr) (c : Nat) (l : List (List Order)) (w : World) (hA : TicksAt w A l) (hl : l.length ≤ 1048576) (hp : ∀ x ∈ l, x.length ≤ 1048576) (hTP : PiecesAt w) :
    Calls Tryd.prog 78 #[.slice A l.length c] w fun e w' => e = .returned (.int .i64 (workLeftL l)) ∧ Below w.heap.size w w' := by
  have HP := hide hp
  clear hp
  cases hv : kitchenOkL l with
  | false =>
    have HV := hide hv
    have HR : Hid (workLeftL l = -1) := hide (by unfold workLeftL; rw [hv]; rfl)
    clear hv
    go_enter Tryd.func78, Tryd.ntmps78
    go_wp2_with fail
    refine (implKitchenValid_any _ _ _ _ hA hl HP.out hTP).mono ?_
    rintro e w1 ⟨rfl, hB1⟩
    rw [HV.out]
    go_wp2_with fail
    go_ret
    exact ⟨by rw [HR.out]; rfl, hB1⟩
  | true =>
    have HV := hide hv
    have h4 := kitchenOk_len hv
    have HR : Hid (workLeftL l = leftK l) := hide (by unfold workLeftL; rw [if_pos hv])
    clear hv
    go_enter Tryd.func78, Tryd.ntmps78
    go_wp2_with fail
    refine (implKitchenValid_any _ _ _ _ hA hl HP.out hTP).mono ?_
    rintro e w1 ⟨rfl, hB1⟩
    rw [HV.out]
    go_wp2_with fail
    go_loopw [3, 13] (fun sv i wr => ∃ (k : Nat) (s : Int), k ≤ l.length ∧ i = .int .i64 k ∧ sv = .int .i64 s ∧ 0 ≤ s ∧ s ≤ 18 * k ∧ Hid (workLeftL l = s + leftK (l.drop k)) ∧ Below w.heap.size w wr) (fun _ i _ => l.length - (intOf i).toNat)
    case atStart => exact ⟨0, 0, Nat.zero_le _, rfl, rfl, by omega, by omega, hide (by rw [HR.out]; simp), hB1⟩
    case round =>
      clear hB1
      obtain ⟨k, s, hk, rfl, rfl, hs0, hs1, HG, hb⟩ := hrel
      have hsz := hb.size
      by_cases hlt : k < l.length
      · obtain ⟨b, off, A', c', rfl, hbl, hc1, hI⟩ := (hA.below hb) k l[k] (List.getElem?_eq_getElem hlt)
        have HD : Hid (l.drop k = l[k] :: l.drop (k + 1)) := hide (List.drop_eq_getElem_cons hlt)
        have hok := kitchenOk_at HV.out (List.getElem_mem hlt)
        generalize l[k] = x at *
        have hx6 := ticketOk_len hok
        have HIN := hide (ticketOk_in hok)
        have HXR := hide (leftT_range x HIN.out)
        have HG1 : Hid (workLeftL l = (s + leftT x) + leftK (l.drop (k + 1))) := hide (by rw [HG.out, HD.out, leftK]; omega)
        have hz : (0 : Int) ≤ k := by omega
        have hz2 : (k : Int) < l.length := by omega
        have HTP := hide (hTP.below hb)
        clear hok HG
        go_wp2_with fail
        go_loopw [3, 19] (fun sv j wr2 => ∃ (m : Nat) (t : Int), m ≤ x.length ∧ j = .int .i64 m ∧ sv = .int .i64 t ∧ 0 ≤ t ∧ t ≤ 18 * k + 3 * m ∧ Hid (s + leftT x = t + leftT (x.drop m)) ∧ Below wr.heap.size wr wr2) (fun _ j _ => x.length - (intOf j).toNat)
        case atStart => exact ⟨0, s, Nat.zero_le _, rfl, rfl, hs0, by omega, hide (by simp), Below.refl _ _⟩
        case round =>
          obtain ⟨m, t, hm, rfl, rfl, ht0, ht1, HJ, hd⟩ := hrel
          have hsz2 := hd.size
          have HTP2 := hide (hTP.below (next hb hd))
          by_cases hmlt : m < x.length
          · obtain ⟨b2, off2, rfl, hbl2, hd1, hd2⟩   := (hI.below hd) m x[m] (List.getElem?_eq_getElem hmlt)
            have HDJ : Hid (x.drop m = x[m] :: x.drop (m + 1)) := hide (List.drop_eq_getElem_cons hmlt)
            have hin := (orderIn_iff.1 (HIN.out _ (List.getElem_mem hmlt))).2
            generalize x[m] = p at *
            obtain ⟨q, hq, hq5, hpz⟩ := left1_state hin
            obtain ⟨hgl, htc⟩ := HTP2.out q hq5
            have hr := left1_range p hin.1
            rw [hpz] at htc
            rw [hq] at hd2
            have HJ1 : Hid (s + leftT x = (t + left1 p) + leftT (x.drop (m + 1))) := hide (by rw [HJ.out, HDJ.out, leftT]; omega)
            obtain ⟨y, HY⟩ : ∃ y, Hid (left1 p = y) := ⟨_, hide rfl⟩
            rw [HY.out] at htc hr HJ1
            have hz3 : (0 : Int) ≤ m := by omega
            have hz4 : (m : Int) < x.length := by omega
            have hz5 : (0 : Int) ≤ q := by omega
            have hz6 : (q : Int) < 5 := by omega
            clear hin hpz hq
            go_wp2_with fail
            go_roundw
            case rel => exact ⟨m + 1, t + y, hmlt, by go_num, by go_num, by omega, by omega, HJ1, by go_grown⟩
            case measure => simp [intOf]; omega
          · have HE : Hid (s + leftT x = t) := hide (by rw [HJ.out, List.drop_of_length_le (by omega), leftT]; omega)
            have ht2 : t ≤ 18 * k + 18 := by omega
            clear HJ
            go_wp2_with fail
            go_roundw
            case rel => exact ⟨k + 1, t, hlt, by go_num, rfl, ht0, by omega, by rw [HE.out] at HG1; exact HG1, next hb hd⟩
            case measure => simp [intOf]; omega
      · have H3 : Hid (workLeftL l = s) := hide (by rw [HG.out, List.drop_of_length_le (by omega), leftK]; omega)
        go_wp2_with fail
        go_ret
        exact ⟨by rw [H3.out]; rfl, hb⟩

set_option maxHeartbeats 2000000 in
theorem specWorkLeft_any (A : Option Addr) (c : Nat) (l : List (List Order)) (w : World) (hA : TicksAt w A l) (hl : l.length ≤ 1048576) (hp : ∀ x ∈ l, x.length ≤ 1048576) :
    Calls Tryd.prog 33 #[.slice A l.length c] w fun e w' => e = .returned (.int .i64 (workLeftL l)) ∧ Below w.heap.size w w' := by
  have HP := hide hp
  clear hp
  cases hv : kitchenOkL l with
  | false =>
    have HV := hide hv
    have HR : Hid (workLeftL l = -1) := hide (by unfold workLeftL; rw [hv]; rfl)
    clear hv
    go_enter Tryd.func33, Tryd.ntmps33
    go_wp2_with fail
    refine (specKitchenValid_any _ _ _ _ hA hl HP.out).mono ?_
    rintro e w1 ⟨rfl, hB1⟩
    rw [HV.out]
    go_wp2_with fail
    go_ret
    exact ⟨by rw [HR.out]; rfl, hB1⟩
  | true =>
    have HV := hide hv
    have h4 := kitchenOk_len hv
    have HR : Hid (workLeftL l = leftK l) := hide (by unfold workLeftL; rw [if_pos hv])
    clear hv
    go_enter Tryd.func33, Tryd.ntmps33
    go_wp2_with fail
    refine (specKitchenValid_any _ _ _ _ hA hl HP.out).mono ?_
    rintro e w1 ⟨rfl, hB1⟩
    rw [HV.out]
    go_wp2_with fail
    go_loopw [3, 4] (fun sv i wr => ∃ (k : Nat) (s : Int), k ≤ l.length ∧ i = .int .i64 k ∧ sv = .int .i64 s ∧ 0 ≤ s ∧ s ≤ 18 * k ∧ Hid (workLeftL l = s + leftK (l.drop k)) ∧ Below w.heap.size w wr) (fun _ i _ => l.length - (intOf i).toNat)
    case atStart => exact ⟨0, 0, Nat.zero_le _, rfl, rfl, by omega, by omega, hide (by rw [HR.out]; simp), hB1⟩
    case round =>
      clear hB1
      obtain ⟨k, s, hk, rfl, rfl, hs0, hs1, HG, hb⟩ := hrel
      have hsz := hb.size
      by_cases hlt : k < l.length
      · obtain ⟨b, off, A', c', rfl, hbl, hc1, hI⟩ := (hA.below hb) k l[k] (List.getElem?_eq_getElem hlt)
        have HD : Hid (l.drop k = l[k] :: l.drop (k + 1)) := hide (List.drop_eq_getElem_cons hlt)
        have hok := kitchenOk_at HV.out (List.getElem_mem hlt)
        generalize l[k] = x at *
        have hx6 := ticketOk_len hok
        have HIN := hide (ticketOk_in hok)
        have HXR := hide (leftT_range x HIN.out)
        have HG1 : Hid (workLeftL l = (s + leftT x) + leftK (l.drop (k + 1))) := hide (by rw [HG.out, HD.out, leftK]; omega)
        have hz : (0 : Int) ≤ k := by omega
        have hz2 : (k : Int) < l.length := by omega
        clear hok HG
        go_wp2_with fail
        go_loopw [3, 5] (fun sv j wr2 => ∃ (m : Nat) (t : Int), m ≤ x.length ∧ j = .int .i64 m ∧ sv = .int .i64 t ∧ 0 ≤ t ∧ t ≤ 18 * k + 3 * m ∧ Hid (s + leftT x = t + leftT (x.drop m)) ∧ wr2 = wr) (fun _ j _ => x.length - (intOf j).toNat)
        case atStart => exact ⟨0, s, Nat.zero_le _, rfl, rfl, hs0, by omega, hide (by simp), rfl⟩
        case round =>
          obtain ⟨m, t, hm, rfl, rfl, ht0, ht1, HJ, rfl⟩ := hrel
          by_cases hmlt : m < x.length
          · obtain ⟨b2, off2, rfl, hbl2, hd1, hd2⟩ := hI m x[m] (List.getElem?_eq_getElem hmlt)
            have HDJ : Hid (x.drop m = x[m] :: x.drop (m + 1)) := hide (List.drop_eq_getElem_cons hmlt)
            have hin := (orderIn_iff.1 (HIN.out _ (List.getElem_mem hmlt))).2
            generalize x[m] = p at *
            have hr := left1_range p hin.1
            have HJ1 : Hid (s + leftT x = (t + left1 p) + leftT (x.drop (m + 1))) := hide (by rw [HJ.out, HDJ.out, leftT]; omega)
            have HY : Hid (max (3 - p.state) 0 = left1 p) := hide (by unfold left1; split <;> omega)
            obtain ⟨hin1, hin2⟩ := hin
            have hz3 : (0 : Int) ≤ m := by omega
            have hz4 : (m : Int) < x.length := by omega
            go_wp2_with fail
            go_roundw
            case rel => exact ⟨m + 1, t + left1 p, hmlt, by go_num, by rw [← HY.out]; go_num, by omega, by omega, HJ1, trivial⟩
            case measure => simp [intOf]; omega
          · have HE : Hid (s + leftT x = t) := hide (by rw [HJ.out, List.drop_of_length_le (by omega), leftT]; omega)
            have ht2 : t ≤ 18 * k + 18 := by omega
            have hz4 : ¬ (m : Int) < x.length := by omega
            clear HJ
            go_wp2_with fail
            go_roundw
            case rel => exact ⟨k + 1, t, hlt, by go_num, rfl, ht0, by omega, by rw [HE.out] at HG1; exact HG1, hb⟩
            case measure => simp [intOf]; omega
      · have H3 : Hid (workLeftL l = s) := hide (by rw [HG.out, List.drop_of_length_le (by omega), leftK]; omega)
        have hz4 : ¬ (k : Int) < l.length := by omega
        go_wp2_with fail
        go_ret
        exact ⟨by rw [H3.out]; rfl, hb⟩
end Go.Proofs.YtmepnilnlpoodaaDoor
