/- Contracts of TakeDo, of the program and of the reference model: both make one list of lots, which the call owns.
   Conditions: lists have at most 1048576 elements. -/
import Derived.Test.YtndcanllkmfahaaDoorTake
import Derived.Test.YtndcanllkmfahaaDoorTab
namespace Go.Proofs.YtndcanllkmfahaaDoor
open Go.RowKit

def takeDoGo : List Lot → List Int → List Lot
  | x :: r, t :: s => ⟨x.many - t, x.last⟩ :: takeDoGo r s
  | _, _ => []
def takeDoL (l : List Lot) (day : Int) (take : List Int) : List Lot := if takeOkL l day take = true then takeDoGo l take else []

theorem takeDoGo_len : ∀ (l : List Lot) (take : List Int), take.length = l.length → (takeDoGo l take).length = l.length
  | [], [], _ => rfl
  | x :: r, t :: s, h => by simp only [takeDoGo, List.length_cons]; rw [takeDoGo_len r s (by simpa using h)]
  | [], _ :: _, h => by simp at h
  | _ :: _, [], h => by simp at h

theorem takeDoGo_at : ∀ {l : List Lot} {take : List Int} {k : Nat} {x : Lot} {t : Int}, l[k]? = some x → take[k]? = some t → (takeDoGo l take)[k]? = some ⟨x.many - t, x.last⟩
  | [], _, k, x, t, h, _ => by simp at h
  | _ :: _, [], k, x, t, _, h => by simp at h
  | y :: r, u :: s, 0, x, t, h, h' => by
    obtain rfl : y = x := by simpa using h
    obtain rfl : u = t := by simpa using h'
    rfl
  | y :: r, u :: s, k + 1, x, t, h, h' => by
    simp only [takeDoGo, List.getElem?_cons_succ]
    exact takeDoGo_at (by simpa using h) (by simpa using h')

theorem takeGo_at {day : Int} : ∀ {l : List Lot} {take : List Int} {k : Nat} {x : Lot} {t : Int}, takeGo day l take = true → l[k]? = some x → take[k]? = some t → 0 ≤ t ∧ t ≤ usab x day
  | [], _, k, x, t, _, h, _ => by simp at h
  | _ :: _, [], k, x, t, _, _, h => by simp at h
  | y :: r, u :: s, k, x, t, hg, h, h' => by
    unfold takeGo at hg
    simp only [Bool.and_eq_true, inR_iff] at hg
    cases k with
    | zero =>
      obtain rfl : y = x := by simpa using h
      obtain rfl : u = t := by simpa using h'
      exact hg.1
    | succ k => exact takeGo_at hg.2 (by simpa using h) (by simpa using h')

theorem takeOkL_parts {l : List Lot} {day : Int} {take : List Int} (h : takeOkL l day take = true) : lotsOk l = true ∧ take.length = l.length ∧ takeGo day l take = true := by
  unfold takeOkL at h
  simp only [Bool.and_eq_true, decide_eq_true_eq] at h
  exact ⟨h.1, h.2.1, h.2.2⟩

theorem takeDoL_len (l : List Lot) (day : Int) (take : List Int) : (takeDoL l day take).length ≤ l.length := by
  unfold takeDoL
  split
  · rename_i h
    rw [takeDoGo_len _ _ (takeOkL_parts h).2.1]
    exact Nat.le_refl _
  · simp

set_option maxRecDepth 100000 in
set_option maxHeartbeats 1000000 in
theorem implTakeDo_any (A B : Option Addr) (c d : Nat) (l : List Lot) (day : Int) (take : List Int) (w : World) (hA : LotsAt w A l) (hl : l.length ≤ 1048576) (hT : IntsAt w B take) (ht : take.length ≤ 1048576) :
    Calls Tryd.prog 18 #[.slice A l.length c, .int .i64 day, .slice B take.length d] w fun e w' => ∃ v, e = .returned (.tuple #[v, .bool (takeOkL l day take)]) ∧ LotSl w' w.heap.size v (takeDoL l day take) ∧ Below w.heap.size w w' := by
  cases hK : takeOkL l day take with
  | false =>
    have HK := hide hK
    have HR : Hid (takeDoL l day take = []) := by unfold takeDoL; rw [hK]; exact hide rfl
    clear hK
    go_enter Tryd.func18, Tryd.ntmps18
    go_wp2_with fail
    refine (implTakeOk_any _ _ _ _ _ _ _ _ hA hl hT ht).mono ?_
    rintro e w1 ⟨rfl, hB1⟩
    rw [HK.out]
    go_wp2_with fail
    refine bodyPost_ret (results_tmp2 rfl _ _ _) rfl ⟨.slice none 0 0, rfl, by rw [HR.out]; exact World.ownsRow_nil _ _ _ _, hB1⟩
  | true =>
    have HK := hide hK
    have HR : Hid (takeDoL l day take = takeDoGo l take) := by unfold takeDoL; rw [hK]; exact hide rfl
    obtain ⟨hI, hn, hG⟩ := takeOkL_parts hK
    have h5 := lotsOk_len hI
    have HI := hide hI
    have HGo := hide hG
    have HLen := hide (takeDoGo_len l take hn)
    have hn1 : take.length ≤ l.length := by omega
    have hn2 : l.length ≤ take.length := by omega
    have hmk := make_lots l.length hl
    clear hK hI hn hG
    go_enter Tryd.func18, Tryd.ntmps18
    go_wp2_with fail
    refine (implTakeOk_any _ _ _ _ _ _ _ _ hA hl hT ht).mono ?_
    rintro e w1 ⟨rfl, hB1⟩
    rw [HK.out]
    have hsz1 := hB1.size
    go_wp2_with fail
    clear hmk
    go_loopw [21] (fun i wr => ∃ k : Nat, k ≤ l.length ∧ i = .int .i64 k ∧ wr.rowIs w1.heap.size 36 (l.length * 2) (fun j => if j < k * 2 then lotCell (takeDoGo l take) j else .int .i64 0) ∧ Below w.heap.size w wr) (fun i _ => l.length - (intOf i).toNat)
    case atStart => exact ⟨0, Nat.zero_le _, rfl, ⟨_, Deep.blk_alloc_new _ _, size_madeCells _ _, fun i hi => by rw [made2 _ _ hi]; simp⟩, by go_grown⟩
    case round =>
      obtain ⟨k, hk, rfl, hrow, hb⟩ := hrel
      have hsz := hb.size
      by_cases hlt : k < l.length
      · obtain ⟨b, off, rfl, hbl, hc1, hc2⟩ := (hA.below hb) k l[k] (List.getElem?_eq_getElem hlt)
        obtain ⟨b2, off2, rfl, hbl2, hd1⟩ := (hT.below hb) k (take[k]'(by omega)) (List.getElem?_eq_getElem (by omega))
        have hx := lotsOk_at HI.out (List.getElem_mem hlt)
        have hta := takeGo_at HGo.out (List.getElem?_eq_getElem hlt) (List.getElem?_eq_getElem (show k < take.length by omega))
        have HP : Hid ((takeDoGo l take)[k]? = some ⟨l[k].many - (take[k]'(by omega)), l[k].last⟩) := hide (takeDoGo_at (List.getElem?_eq_getElem hlt) (List.getElem?_eq_getElem (by omega)))
        have hu := usab_range hx day
        generalize l[k] = x at *
        generalize (take[k]'(by omega)) = t at *
        obtain ⟨hx0, hx1, hx2, hx3⟩ := hx
        obtain ⟨ht0, ht1⟩ := hta
        have ht9 : t ≤ 9 := by omega
        clear hu ht1
        have hz : (0 : Int) ≤ k := by omega
        have hz2 : (k : Int) < l.length := by omega
        have hz3 : (k : Int) < take.length := by omega
        have hwrap : IntKind.i64.wrap (x.many - t) = x.many - t := IntWalk.i64_in _ (by omega)
        have hq1 := hrow.cell (i := k * 2) (by omega)
        have hq2 := hrow.cell (i := k * 2 + 1) (by omega)
        have hf := hrow.frozen
        have hglt := hrow.lt
        have HNX : Hid (((wr.setCell ⟨w1.heap.size, k * 2, none⟩ (.int .i64 (x.many - t))).setCell ⟨w1.heap.size, k * 2 + 1, none⟩ (.int .i64 x.last)).rowIs w1.heap.size 36 (l.length * 2) (fun j => if j < (k + 1) * 2 then lotCell (takeDoGo l take) j else .int .i64 0)) := hide (((hrow.set (k * 2) _).set (k * 2 + 1) _).congr (fun j hj => by
          rcases Nat.lt_trichotomy j (k * 2) with h | h | h
          · rw [if_neg (by omega), if_neg (by omega), if_pos h, if_pos (by omega)]
          · subst h
            rw [if_neg (by omega), if_pos rfl, if_pos (by omega), lotCell_even HP.out]
          · by_cases h' : j = k * 2 + 1
            · subst h'
              rw [if_pos rfl, if_pos (by omega), lotCell_odd HP.out]
            · rw [if_neg h', if_neg (by omega), if_neg (by omega), if_neg (by omega)]))
        have hne : ¬ (k * 2 + 1 = k * 2) := by omega
        clear hrow
        go_wp2_with fail
        refine still_tail_drew 13 (by kernel_rfl) (by kernel_rfl) ?_
        simp only [List.take_succ_cons, List.take_zero, List.drop_succ_cons, List.drop_zero]
        repeat still_step
        refine wpStill_nil ?_
        go_wp2_with fail
        clear hwrap
        go_roundw
        case rel => exact ⟨k + 1, hlt, by go_num, World.rowIs.alloc HNX.out _, by go_grown⟩
        case measure => simp [intOf]; omega
      · have HS : Hid (LotSl wr w.heap.size (.slice (some ⟨w1.heap.size, 0, none⟩) l.length l.length) (takeDoL l day take)) := hide (by
          have hk' : k = l.length := by omega
          subst hk'
          have := ownsRow_of_row (xs := lotCells (takeDoGo l take)) (hrow.congr (g := lotCell (takeDoGo l take)) (fun i hi => if_pos hi)) hsz1 (by unfold maxLen; omega) (by rw [lotCells_len, HLen.out]) (fun i hi => lotCells_cell (by rw [HLen.out]; exact hi))
          rw [HR.out]
          unfold LotSl
          rw [HLen.out]
          exact this)
        go_wp2_with fail
        refine bodyPost_ret (results_tmp2 rfl _ _ _) rfl ⟨_, rfl, HS.out, hb⟩

set_option maxRecDepth 100000 in
set_option maxHeartbeats 2000000 in
theorem specTakeDo_any (A B : Option Addr) (c d : Nat) (l : List Lot) (day : Int) (take : List Int) (w : World) (hA : LotsAt w A l) (hl : l.length ≤ 1048576) (hT : IntsAt w B take) (ht : take.length ≤ 1048576) :
    Calls Tryd.prog 19 #[.slice A l.length c, .int .i64 day, .slice B take.length d] w fun e w' => ∃ v, e = .returned (.tuple #[v, .bool (takeOkL l day take)]) ∧ LotSl w' w.heap.size v (takeDoL l day take) ∧ Below w.heap.size w w' := by
  have hown0 : LotSl (w.alloc (.cells #[] 36)) w.heap.size (.slice (some ⟨w.heap.size, 0, none⟩) 0 0) [] := World.ownsRow_lit w #[] 0 (Nat.le_refl _) (by unfold maxLen; omega) rfl
  have HO := hide hown0
  clear hown0
  cases hK : takeOkL l day take with
  | false =>
    have HK := hide hK
    have HR : Hid (takeDoL l day take = []) := by unfold takeDoL; rw [hK]; exact hide rfl
    clear hK
    go_enter Tryd.func19, Tryd.ntmps19
    go_wp2_with fail
    refine (specTakeOk_any _ _ _ _ _ _ _ _ (hA.below (by go_grown)) hl (hT.below (by go_grown)) ht).mono ?_
    rintro e w1 ⟨rfl, hB1⟩
    rw [HK.out]
    have hb1 : Below w.heap.size w w1 := Below.trans (by go_grown) (hB1.mono (by simp))
    go_wp2_with fail
    refine bodyPost_ret (results_tmp2 rfl _ _ _) rfl ⟨_, rfl, by rw [HR.out]; exact HO.out.below hB1, hb1⟩
  | true =>
    have HK := hide hK
    have HR : Hid (takeDoL l day take = takeDoGo l take) := by unfold takeDoL; rw [hK]; exact hide rfl
    obtain ⟨hI, hn, hG⟩ := takeOkL_parts hK
    have h5 := lotsOk_len hI
    have HI := hide hI
    have HGo := hide hG
    have hn1 : take.length ≤ l.length := by omega
    have hn2 : l.length ≤ take.length := by omega
    clear hK hI hn hG
    go_enter Tryd.func19, Tryd.ntmps19
    go_wp2_with fail
    refine (specTakeOk_any _ _ _ _ _ _ _ _ (hA.below (by go_grown)) hl (hT.below (by go_grown)) ht).mono ?_
    rintro e w1 ⟨rfl, hB1⟩
    rw [HK.out]
    have hb1 : Below w.heap.size w w1 := Below.trans (by go_grown) (hB1.mono (by simp))
    have HO1 := hide (HO.out.below hB1)
    clear HO hB1
    go_wp2_with fail
    go_loopw [8, 9] (fun v i wr => ∃ (k : Nat) (ys : List Lot), k ≤ l.length ∧ i = .int .i64 k ∧ ys.length ≤ k ∧ LotSl wr w.heap.size v ys ∧ Hid (takeDoGo l take = ys ++ takeDoGo (l.drop k) (take.drop k)) ∧ Below w.heap.size w wr) (fun _ i _ => l.length - (intOf i).toNat)
    case atStart => exact ⟨0, [], Nat.zero_le _, rfl, by simp, HO1.out, hide (by simp), hb1⟩
    case round =>
      obtain ⟨k, ys, hk, rfl, hyl, hS, HG, hb⟩ := hrel
      have hsz := hb.size
      by_cases hlt : k < l.length
      · obtain ⟨b, off, rfl, hbl, hc1, hc2⟩ := hA k l[k] (List.getElem?_eq_getElem hlt)
        obtain ⟨b2, off2, rfl, hbl2, hd1⟩ := hT k (take[k]'(by omega)) (List.getElem?_eq_getElem (by omega))
        have hx := lotsOk_at HI.out (List.getElem_mem hlt)
        have hta := takeGo_at HGo.out (List.getElem?_eq_getElem hlt) (List.getElem?_eq_getElem (show k < take.length by omega))
        have hu := usab_range hx day
        have HD : Hid (l.drop k = l[k] :: l.drop (k + 1)) := hide (List.drop_eq_getElem_cons hlt)
        have HE : Hid (take.drop k = (take[k]'(by omega)) :: take.drop (k + 1)) := hide (List.drop_eq_getElem_cons (by omega))
        generalize l[k] = x at *
        generalize (take[k]'(by omega)) = t at *
        obtain ⟨hx0, hx1, hx2, hx3⟩ := hx
        obtain ⟨ht0, ht1⟩ := hta
        have ht9 : t ≤ 9 := by omega
        clear hu ht1
        have HF : Hid (takeDoGo l take = (ys ++ [⟨x.many - t, x.last⟩]) ++ takeDoGo (l.drop (k + 1)) (take.drop (k + 1))) := hide (by rw [HG.out, HD.out, HE.out, takeDoGo, List.append_assoc]; rfl)
        have hz : (0 : Int) ≤ k := by omega
        have hz2 : (k : Int) < l.length := by omega
        have hz3 : (k : Int) < take.length := by omega
        have hwrap : IntKind.i64.wrap (x.many - t) = x.many - t := IntWalk.i64_in _ (by omega)
        have HC : Hid (∀ W, Below w.heap.size w W → W.cell? ⟨b, off + k * 2, none⟩ = some (.int .i64 x.many) ∧ W.cell? ⟨b, off + k * 2 + 1, none⟩ = some (.int .i64 x.last) ∧ W.cell? ⟨b2, off2 + k, none⟩ = some (.int .i64 t)) := hide (fun W hB => ⟨(hB.cell hbl).trans hc1, (hB.cell hbl).trans hc2, (hB.cell hbl2).trans hd1⟩)
        have HG2 : Hid (∀ w1, (wr.alloc (.cells #[.int .i64 (x.many - t), .int .i64 x.last] 36)).drew.grownBy w1 u8.ownBlock → Below w.heap.size w w1) := hide (fun w1 hg => (hb.alloc hsz _).drew.grown hg (by simp; omega) (fun j hj => (World.ownsRow.lt hS j hj).1))
        have hSa : LotSl (wr.alloc (.cells #[.int .i64 (x.many - t), .int .i64 x.last] 36)).drew w.heap.size u8 ys := World.ownsRow.alloc hS _
        have HSa := hide hSa
        clear hc1 hc2 hd1 hbl hbl2 hSa hS
        go_wp2_with fail
        go_region_held3 (fun W => W.cell? ⟨b, off + k * 2, none⟩ = some (.int .i64 x.many) ∧ W.cell? ⟨b, off + k * 2 + 1, none⟩ = some (.int .i64 x.last) ∧ W.cell? ⟨b2, off2 + k, none⟩ = some (.int .i64 t))
          (first | exact HC.out _ hb.drew | exact HC.out _ (hb.alloc hsz _).drew | exact HC.out _ (HG2.out _ hgrow))
          ((refine step_push_lot (by rfl) _ _ (by rfl) w.heap.size u8 _ (by rfl) HSa.out wr.heap.size ⟨x.many - t, x.last⟩ (by rfl) (heap_alloc_new wr _) (by omega) (by simp; omega) ?_; intro gg cap w2 hown2 hgrow))
        all_goals
          have hb2 := HG2.out _ hgrow
          clear hgrow hwrap
          go_wp2_with fail
          go_roundw
          case rel => exact ⟨k + 1, ys ++ [⟨x.many - t, x.last⟩], hlt, by go_num, by simp; omega, hown2, HF, hb2⟩
          case measure => simp [intOf]; omega
      · have HS : Hid (LotSl wr w.heap.size u8 (takeDoL l day take)) := hide (by
          rw [HR.out, HG.out, List.drop_of_length_le (by omega)]
          simpa [takeDoGo] using hS)
        go_wp2_with fail
        refine bodyPost_ret (results_tmp2 rfl _ _ _) rfl ⟨_, rfl, HS.out, hb⟩
end Go.Proofs.YtndcanllkmfahaaDoor
