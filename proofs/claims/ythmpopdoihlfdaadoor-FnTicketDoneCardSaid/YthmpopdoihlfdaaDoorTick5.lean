/- TicketMay: contracts of the program and of the reference model.
   Conditions: lists have at most 1048576 elements; the two tables hold what the source says. -/
import Derived.Test.YthmpopdoihlfdaaDoorTick4
import Derived.Test.YthmpopdoihlfdaaDoorPush
namespace Go.Proofs.YthmpopdoihlfdaaDoor
open Go.RowKit Go.ChangeShapes Go.WideShapes Go.ChangeAt Go.Deep

set_option maxHeartbeats 2000000 in
theorem implTicketMay_any (A : Option Addr) (c : Nat) (ls : List Order) (w : World) (hA : OrdersAt w A ls) (hl : ls.length ≤ 1048576) (hTP : PiecesAt w) (hTN : NextAt w) :
    Calls Tryd.prog 27 #[.slice A ls.length c] w fun e w' => ∃ u, e = .returned u ∧ IntSl w' w.heap.size u (mayL ls) ∧ Below w.heap.size w w' := by
  go_enter Tryd.func27, Tryd.ntmps27
  go_wp2_with fail
  go_loopw [3, 9] (fun mv i wr => ∃ k : Nat, k ≤ ls.length ∧ i = .int .i64 k ∧ IntSl wr w.heap.size mv (mayUpto ls k) ∧ Below w.heap.size w wr) (fun _ i _ => ls.length - (intOf i).toNat)
  case atStart => exact ⟨0, Nat.zero_le _, rfl, World.ownsRow_nil _ _ _ _, by go_grown⟩
  case round =>
    obtain ⟨k, hk, rfl, hS, hb⟩ := hrel
    have hsz := hb.size
    have hml := mayUpto_len ls k
    by_cases hlt : k < ls.length
    · have hz : (0 : Int) ≤ k := by omega
      have hz2 : (k : Int) < ls.length := by omega
      have HA := hide (hA.below hb)
      have HTP := hide (hTP.below hb)
      have HTN := hide (hTN.below hb)
      have HS := hide hS
      have HLT := hide (World.ownsRow.lt hS)
      clear hS
      cases hm : mayOf ls k with
      | false =>
        have HM := hide (show (ticketDoL ls k 0).2 = false from hm)
        have HE := hide (mayUpto_no hm)
        clear hm
        go_wp2_with fail
        refine (implTicketDo_any _ _ _ _ _ _ HA.out hl HTP.out HTN.out).mono ?_
        rintro e w1 ⟨u, rfl, -, hB⟩
        rw [HM.out]
        have hb1 := next hb hB
        have HS1 := hide (HS.out.below hB)
        go_wp2_with fail
        go_roundw
        case rel => exact ⟨k + 1, hlt, by go_num, by rw [HE.out]; exact HS1.out, hb1⟩
        case measure => simp [intOf]; omega
      | true =>
        have HM := hide (show (ticketDoL ls k 0).2 = true from hm)
        have HE := hide (mayUpto_yes hm)
        obtain ⟨xs, HX⟩ : ∃ xs, Hid (mayUpto ls k = xs) := ⟨_, hide rfl⟩
        rw [HX.out] at HS hml HE
        clear hm
        go_wp2_with fail
        refine (implTicketDo_any _ _ _ _ _ _ HA.out hl HTP.out HTN.out).mono ?_
        rintro e w1 ⟨u, rfl, -, hB⟩
        rw [HM.out]
        have hb1 := next hb hB
        have hsz1 := hb1.size
        have HS1 := hide ((HS.out.below hB).below (w' := w1.alloc (.cells #[.int .i64 (k : Int)] 3)) (by go_grown))
        have hba : Below w.heap.size w (w1.alloc (.cells #[.int .i64 (k : Int)] 3)) := by go_grown
        go_wp2_with (at_builtin; refine wpList_push_int rfl _ _ rfl w.heap.size _ xs rfl HS1.out w1.heap.size (k : Int) rfl (heap_alloc_new w1 _) (by omega) (by simp; omega) ?_; intro g cap w2 hown hgrow hnew)
        have hb2 : Below w.heap.size w w2 := hba.grown hgrow (by simp; omega) (fun j hj => (HLT.out j hj).1)
        have hown2 : ∃ n, n = xs.length + 1 ∧ IntSl w2 w.heap.size (.slice (some ⟨g, 0, none⟩) n cap) (mayUpto ls (k + 1)) := ⟨_, rfl, by rw [HE.out]; exact hown⟩
        obtain ⟨n, hn, hown2⟩ := hown2
        rw [← hn]
        have HOW := hide hown2
        clear hn hown hown2 hgrow hnew hba
        go_wp2_with fail
        go_roundw
        case rel => exact ⟨k + 1, hlt, by go_num, HOW.out, hb2⟩
        case measure => simp [intOf]; omega
    · have HE : Hid (mayL ls = mayUpto ls k) := hide (by unfold mayL; rw [show ls.length = k from by omega])
      go_wp2_with fail
      refine bodyPost_ret (results_tmp rfl _ _ _) rfl ⟨_, rfl, by rw [HE.out]; exact hS, hb⟩

set_option maxHeartbeats 2000000 in
theorem specTicketMay_any (A : Option Addr) (c : Nat) (ls : List Order) (w : World) (hA : OrdersAt w A ls) (hl : ls.length ≤ 1048576) :
    Calls Tryd.prog 29 #[.slice A ls.length c] w fun e w' => ∃ u, e = .returned u ∧ IntSl w' w.heap.size u (mayL ls) ∧ Below w.heap.size w w' := by
  have hO0 : IntSl (w.alloc (.cells #[] 3)) w.heap.size (.slice (some ⟨w.heap.size, 0, none⟩) 0 0) [] := World.ownsRow_lit w #[] 0 (Nat.le_refl _) (by unfold maxLen; omega) rfl
  have HO0 := hide hO0
  have hba : Below w.heap.size w (w.alloc (.cells #[] 3)) := by go_grown
  clear hO0
  go_enter Tryd.func29, Tryd.ntmps29
  go_wp2_with fail
  go_loopw [3, 4] (fun mv i wr => ∃ k : Nat, k ≤ ls.length ∧ i = .int .i64 k ∧ IntSl wr w.heap.size mv (mayUpto ls k) ∧ Below w.heap.size w wr) (fun _ i _ => ls.length - (intOf i).toNat)
  case atStart => exact ⟨0, Nat.zero_le _, rfl, HO0.out, hba⟩
  case round =>
    clear HO0 hba
    obtain ⟨k, hk, rfl, hS, hb⟩ := hrel
    have hsz := hb.size
    have hml := mayUpto_len ls k
    by_cases hlt : k < ls.length
    · have hz : (0 : Int) ≤ k := by omega
      have hz2 : (k : Int) < ls.length := by omega
      have HA := hide (hA.below hb)
      have HS := hide hS
      have HLT := hide (World.ownsRow.lt hS)
      clear hS
      cases hm : mayOf ls k with
      | false =>
        have HM := hide (show (ticketDoL ls k 0).2 = false from hm)
        have HE := hide (mayUpto_no hm)
        clear hm
        go_wp2_with fail
        refine (specTicketDo_any _ _ _ _ _ _ HA.out hl).mono ?_
        rintro e w1 ⟨u, rfl, -, hB⟩
        rw [HM.out]
        have hb1 := next hb hB
        have HS1 := hide (HS.out.below hB)
        go_wp2_with fail
        go_roundw
        case rel => exact ⟨k + 1, hlt, by go_num, by rw [HE.out]; exact HS1.out, hb1⟩
        case measure => simp [intOf]; omega
      | true =>
        have HM := hide (show (ticketDoL ls k 0).2 = true from hm)
        have HE := hide (mayUpto_yes hm)
        obtain ⟨xs, HX⟩ : ∃ xs, Hid (mayUpto ls k = xs) := ⟨_, hide rfl⟩
        rw [HX.out] at HS hml HE
        clear hm
        go_wp2_with fail
        refine (specTicketDo_any _ _ _ _ _ _ HA.out hl).mono ?_
        rintro e w1 ⟨u, rfl, -, hB⟩
        rw [HM.out]
        have hb1 := next hb hB
        have hsz1 := hb1.size
        have HS1 := hide ((HS.out.below hB).below (w' := w1.alloc (.cells #[.int .i64 (k : Int)] 3)) (by go_grown))
        have hba : Below w.heap.size w (w1.alloc (.cells #[.int .i64 (k : Int)] 3)) := by go_grown
        go_wp2_with (at_builtin; refine wpList_push_int rfl _ _ rfl w.heap.size _ xs rfl HS1.out w1.heap.size (k : Int) rfl (heap_alloc_new w1 _) (by omega) (by simp; omega) ?_; intro g cap w2 hown hgrow hnew)
        have hb2 : Below w.heap.size w w2 := hba.grown hgrow (by simp; omega) (fun j hj => (HLT.out j hj).1)
        have hown2 : ∃ n, n = xs.length + 1 ∧ IntSl w2 w.heap.size (.slice (some ⟨g, 0, none⟩) n cap) (mayUpto ls (k + 1)) := ⟨_, rfl, by rw [HE.out]; exact hown⟩
        obtain ⟨n, hn, hown2⟩ := hown2
        rw [← hn]
        have HOW := hide hown2
        clear hn hown hown2 hgrow hnew hba
        go_wp2_with fail
        go_roundw
        case rel => exact ⟨k + 1, hlt, by go_num, HOW.out, hb2⟩
        case measure => simp [intOf]; omega
    · have HE : Hid (mayL ls = mayUpto ls k) := hide (by unfold mayL; rw [show ls.length = k from by omega])
      go_wp2_with fail
      refine bodyPost_ret (results_tmp rfl _ _ _) rfl ⟨_, rfl, by rw [HE.out]; exact hS, hb⟩
end Go.Proofs.YthmpopdoihlfdaaDoor
