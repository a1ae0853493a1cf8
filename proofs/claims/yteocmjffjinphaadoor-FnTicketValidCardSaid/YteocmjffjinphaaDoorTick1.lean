/- TicketNew: contracts of the program and of the reference model.
   Conditions: lists have at most 1048576 elements. -/
import Derived.Test.YteocmjffjinphaaDoorStock
import Derived.Test.YteocmjffjinphaaDoorOrders
namespace Go.Proofs.YteocmjffjinphaaDoor
open Go.RowKit Go.ChangeShapes Go.WideShapes Go.ChangeAt Go.Deep

def coursesOk (xs : List Int) : Bool := decide (xs.length ≤ 6) && rangeOk 2 xs
def newOrder (c : Int) : Order := ⟨c, 0⟩
def ticketNewL (xs : List Int) : List Order := if coursesOk xs = true then xs.map newOrder else []
theorem ticketNewL_len (xs : List Int) : (ticketNewL xs).length ≤ xs.length := by
  unfold ticketNewL
  split <;> simp

theorem orders_zero (w : World) {lo : Nat} (n : Nat) (hlo : lo ≤ w.heap.size) (hn : n ≤ 1048576) : OrderSl (w.alloc (.cells (madeCells #[.int .i64 0, .int .i64 0] (n * 2)) 58)) lo (.slice (some ⟨w.heap.size, 0, none⟩) n n) (List.replicate n ⟨0, 0⟩) := by
  have h : OwnOrders (w.alloc (.cells (madeCells #[.int .i64 0, .int .i64 0] (n * 2)) 58)) w.heap.size (List.replicate n ⟨0, 0⟩) := by
    unfold OwnOrders
    rw [List.length_replicate]
    refine ⟨_, Deep.blk_alloc_new _ _, size_madeCells _ _, fun i hi => ?_⟩
    rw [made2 _ _ hi]
    unfold orderCell
    rw [List.getElem?_replicate, if_pos (by omega)]
    simp
  have := h.sl hlo (by rw [List.length_replicate]; exact hn)
  rw [List.length_replicate] at this
  exact this

set_option maxRecDepth 100000 in
set_option maxHeartbeats 2000000 in
theorem specTicketNew_any (A : Option Addr) (c : Nat) (xs : List Int) (w : World) (hA : IntsAt w A xs) (hl : xs.length ≤ 1048576) :
    Calls Tryd.prog 96 #[.slice A xs.length c] w fun e w' => ∃ v, e = .returned v ∧ OrderSl w' w.heap.size v (ticketNewL xs) ∧ Below w.heap.size w w' := by
  have hO0 : OrderSl (w.alloc (.cells #[] 58)) w.heap.size (.slice (some ⟨w.heap.size, 0, none⟩) 0 0) [] := World.ownsRow_lit w #[] 0 (Nat.le_refl _) (by unfold maxLen; omega) rfl
  have HO0 := hide hO0
  have hba : Below w.heap.size w (w.alloc (.cells #[] 58)) := by go_grown
  clear hO0
  go_enter Tryd.func96, Tryd.ntmps96
  go_wp2_with fail
  go_loopw [3, 4] (fun ov i wr => ∃ k : Nat, k ≤ xs.length ∧ i = .int .i64 k ∧ Hid (rangeOk 2 xs = rangeOk 2 (xs.drop k) ∧ (k = 0 ∨ xs.length ≤ 6)) ∧ OrderSl wr w.heap.size ov ((xs.take k).map newOrder) ∧ Below w.heap.size w wr) (fun _ i _ => xs.length - (intOf i).toNat)
  case atStart => exact ⟨0, Nat.zero_le _, rfl, hide ⟨rfl, .inl rfl⟩, by simpa using HO0.out, hba⟩
  case round =>
    clear HO0 hba
    obtain ⟨k, hk, rfl, HG, hS, hb⟩ := hrel
    have hsz := hb.size
    by_cases hlt : k < xs.length
    · obtain ⟨b1, off1, rfl, hbl1, hc1⟩ := (hA.below hb) k xs[k] (List.getElem?_eq_getElem hlt)
      have HT : Hid ((xs.take (k + 1)).map newOrder = (xs.take k).map newOrder ++ [⟨xs[k], 0⟩]) := hide (by rw [List.take_succ_eq_append_getElem hlt, List.map_append]; rfl)
      have HD : Hid (xs.drop k = xs[k] :: xs.drop (k + 1)) := hide (List.drop_eq_getElem_cons hlt)
      generalize xs[k] = p at *
      have hz : (0 : Int) ≤ k := by omega
      have hz2 : (k : Int) < xs.length := by omega
      cases hp : inR p 0 2 with
      | false =>
        have HQ := hide hp
        have H3 : Hid (ticketNewL xs = []) := hide (by unfold ticketNewL coursesOk; rw [HG.out.1, HD.out]; unfold rangeOk; rw [List.all_cons, hp]; simp)
        clear hp
        go_wp2_with fail
        refine (l1In_is _ _ _ _ HQ _).mono ?_
        rintro e wr ⟨rfl, rfl⟩
        go_wp2_with fail
        refine bodyPost_ret (results_tmp rfl _ _ _) rfl ⟨_, rfl, by rw [H3.out]; exact World.ownsRow_lit wr #[] 0 hsz (by unfold maxLen; omega) rfl, by go_grown⟩
      | true =>
        have HQ := hide hp
        by_cases h6 : xs.length ≤ 6
        · have hd : decide ((6 : Int) < xs.length) = false := decide_eq_false (by omega)
          have HG2 : Hid (rangeOk 2 xs = rangeOk 2 (xs.drop (k + 1)) ∧ (k + 1 = 0 ∨ xs.length ≤ 6)) := hide ⟨by rw [HG.out.1, HD.out]; unfold rangeOk; rw [List.all_cons, hp]; rfl, .inr h6⟩
          have HSA := hide (World.ownsRow.alloc hS (.cells #[.int .i64 p, .int .i64 0] 58))
          have HBA := hide (hb.alloc hsz (.cells #[.int .i64 p, .int .i64 0] 58))
          have HLT := hide (World.ownsRow.lt hS)
          obtain ⟨os, hos⟩ : ∃ os, (xs.take k).map newOrder = os := ⟨_, rfl⟩
          have hol : os.length = k := by rw [← hos]; simp; omega
          rw [hos] at HSA HT
          clear hp hS hos
          go_wp2_with fail
          refine (l1In_is _ _ _ _ HQ _).mono ?_
          rintro e wr ⟨rfl, rfl⟩
          go_wp2_with (at_builtin; refine wpList_push_order rfl _ _ rfl w.heap.size u3 os rfl HSA.out wr.heap.size ⟨p, 0⟩ rfl (heap_alloc_new wr _) (by omega) (by simp; omega) ?_; intro g5 cap w5 hown hgrow)
          have hb5 : Below w.heap.size w w5 := HBA.out.grown hgrow (by simp; omega) (fun k hk => (HLT.out k hk).1)
          rw [hol] at hown
          have hown2 : OrderSl w5 w.heap.size (.slice (some ⟨g5, 0, none⟩) (k + 1) cap) ((xs.take (k + 1)).map newOrder) := by rw [HT.out]; exact hown
          clear hgrow hown
          go_wp2_with fail
          go_roundw
          case rel => exact ⟨k + 1, hlt, by go_num, HG2, hown2, hb5⟩
          case measure => simp [intOf]; omega
        · have hd : decide ((6 : Int) < xs.length) = true := decide_eq_true (by omega)
          have H3 : Hid (ticketNewL xs = []) := hide (by unfold ticketNewL coursesOk; rw [decide_eq_false h6]; rfl)
          clear hp
          go_wp2_with fail
          refine (l1In_is _ _ _ _ HQ _).mono ?_
          rintro e wr ⟨rfl, rfl⟩
          go_wp2_with fail
          refine bodyPost_ret (results_tmp rfl _ _ _) rfl ⟨_, rfl, by rw [H3.out]; exact World.ownsRow_lit wr #[] 0 hsz (by unfold maxLen; omega) rfl, by go_grown⟩
    · have H3 : Hid (ticketNewL xs = (xs.take k).map newOrder) := hide (by
        have h := HG.out
        rw [List.drop_of_length_le (by omega)] at h
        have hle : xs.length ≤ 6 := by rcases h.2 with e | e <;> omega
        unfold ticketNewL coursesOk
        rw [h.1, decide_eq_true hle, List.take_of_length_le (by omega)]
        rfl)
      go_wp2_with fail
      refine bodyPost_ret (results_tmp rfl _ _ _) rfl ⟨_, rfl, by rw [H3.out]; exact hS, hb⟩
end Go.Proofs.YteocmjffjinphaaDoor
