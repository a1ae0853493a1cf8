/- TicketValid, TicketCourse and TicketDone: contracts of the program and of the reference model.
   Conditions: lists have at most 1048576 elements; piecesLeft holds what the source says. -/
import Derived.Test.YtmepnilnlpoodaaDoorTickTab
namespace Go.Proofs.YtmepnilnlpoodaaDoor
open Go.RowKit Go.ChangeShapes Go.WideShapes Go.ChangeAt Go.Deep

/-- A box of two cells, new in a world, stays. -/
theorem box2 {w w' : World} {u v : Value} {t : TypeId} (hB : Below (w.alloc (.cells #[u, v] t)).heap.size (w.alloc (.cells #[u, v] t)) w') :
    w'.cell? ⟨w.heap.size, 0, none⟩ = some u ∧ w'.cell? ⟨w.heap.size, 1, none⟩ = some v ∧ w.heap.size < w'.heap.size := by
  have h0 : (w.alloc (.cells #[u, v] t)).cell? ⟨w.heap.size, 0, none⟩ = some u := by rw [cell_of_row _ w.heap.size 0 _ _ _ (heap_alloc_new w _)]; rfl
  have h1 : (w.alloc (.cells #[u, v] t)).cell? ⟨w.heap.size, 1, none⟩ = some v := by rw [cell_of_row _ w.heap.size 1 _ _ _ (heap_alloc_new w _)]; rfl
  exact ⟨(hB.cell (by simp)).trans h0, (hB.cell (by simp)).trans h1, by have := hB.size; simp at this; omega⟩

theorem openO_state {p : Order} (h : 0 ≤ p.state ∧ p.state ≤ 4) : ∃ s : Nat, p.state = s ∧ s < 5 ∧ decide (0 < piecesZ.getD s 0) = openO p := by
  refine ⟨p.state.toNat, by omega, by omega, ?_⟩
  unfold openO
  rcases (by omega : p.state = 0 ∨ p.state = 1 ∨ p.state = 2 ∨ p.state = 3 ∨ p.state = 4) with e | e | e | e | e <;> rw [e] <;> rfl

set_option maxHeartbeats 400000 in
theorem isOpen_any (p : Order) (w : World) (h : 0 ≤ p.state ∧ p.state ≤ 4) (hT : PiecesAt w) :
    Calls Tryd.prog 142 #[.agg #[.int .i64 p.course, .int .i64 p.state]] w fun e w' => e = .returned (.bool (openO p)) ∧ Below w.heap.size w w' := by
  obtain ⟨s, hs, hs5, ho⟩ := openO_state h
  obtain ⟨hlt, hc⟩ := hT s hs5
  obtain ⟨y, hy⟩ : ∃ y, piecesZ.getD s 0 = y := ⟨_, rfl⟩
  rw [hy] at hc ho
  have HO := hide ho
  clear hy
  obtain ⟨a, b⟩ := p
  simp only at hs
  subst hs
  show Calls Tryd.prog 142 #[.agg #[.int .i64 a, .int .i64 (s : Int)]] w _
  clear h ho
  have hz : (0 : Int) ≤ s := by omega
  have hz2 : (s : Int) < 5 := by omega
  go_enter Tryd.func142, Tryd.ntmps142
  go_wp2_with fail
  go_ret
  exact ⟨by rw [← HO.out]; rfl, by go_grown⟩

set_option maxHeartbeats 400000 in
theorem wasFired_any (p : Order) (w : World) (b : Bool) (hb : Hid (firedO p = b)) (h : 0 ≤ p.state ∧ p.state ≤ 4) :
    Calls Tryd.prog 119 #[.agg #[.int .i64 p.course, .int .i64 p.state]] w fun e w' => e = .returned (.bool b) ∧ Below w.heap.size w w' := by
  obtain ⟨a, s⟩ := p
  simp only at h
  have hbo := hb.out
  unfold firedO inR at hbo
  simp only at hbo
  show Calls Tryd.prog 119 #[.agg #[.int .i64 a, .int .i64 s]] w _
  by_cases h0 : s = 0
  · subst h0
    obtain rfl : b = false := hbo.symm.trans (decide_eq_false (by omega))
    clear hbo
    go_enter Tryd.func119, Tryd.ntmps119
    go_wp2_with fail
    go_ret
    exact ⟨rfl, by go_grown⟩
  · have e0 : (s != 0) = true := by simp [h0]
    by_cases h4 : s = 4
    · subst h4
      obtain rfl : b = false := hbo.symm.trans (decide_eq_false (by omega))
      clear hbo
      go_enter Tryd.func119, Tryd.ntmps119
      go_wp2_with fail
      go_ret
      exact ⟨rfl, by go_grown⟩
    · have e4 : (s != 4) = true := by simp [h4]
      obtain rfl : b = true := hbo.symm.trans (decide_eq_true (by omega))
      clear hbo
      go_enter Tryd.func119, Tryd.ntmps119
      go_wp2_with fail
      go_ret
      exact ⟨rfl, by go_grown⟩

theorem leastStep_no {a : Int} {o : Order} (h : openO o = false) : leastStep a o = a := by unfold leastStep; rw [h]; rfl
theorem leastStep_first {a : Int} {o : Order} (h : openO o = true) (h1 : a < 0) : leastStep a o = o.course := by unfold leastStep; rw [h, decide_eq_true h1]; rfl
theorem leastStep_less {a : Int} {o : Order} (h : openO o = true) (h1 : o.course < a) : leastStep a o = o.course := by unfold leastStep; rw [h, decide_eq_true h1]; simp
theorem leastStep_more {a : Int} {o : Order} (h1 : ¬ a < 0) (h2 : ¬ o.course < a) : leastStep a o = a := by unfold leastStep; rw [decide_eq_false h1, decide_eq_false h2]; simp

set_option maxHeartbeats 1000000 in
theorem leastOpen_any (A : Option Addr) (c : Nat) (ls : List Order) (w : World) (hA : OrdersAt w A ls) (hl : ls.length ≤ 1048576) (hin : ∀ o ∈ ls, orderIn o = true) (hT : PiecesAt w) :
    Calls Tryd.prog 118 #[.slice A ls.length c] w fun e w' => e = .returned (.int .i64 (leastL ls)) ∧ Below w.heap.size w w' := by
  have HI := hide hin
  clear hin
  go_enter Tryd.func118, Tryd.ntmps118
  go_wp2_with fail
  go_loopw [3, 8] (fun sv i wr => ∃ (k : Nat) (a : Int), k ≤ ls.length ∧ i = .int .i64 k ∧ sv = .int .i64 a ∧ -1 ≤ a ∧ a ≤ 2 ∧ Hid (leastL ls = leastGo a (ls.drop k)) ∧ Below w.heap.size w wr) (fun _ i _ => ls.length - (intOf i).toNat)
  case atStart => exact ⟨0, -1, Nat.zero_le _, rfl, rfl, by omega, by omega, hide rfl, by go_grown⟩
  case round =>
    obtain ⟨k, a, hk, rfl, rfl, ha, ha2, HG, hb⟩ := hrel
    have hsz := hb.size
    by_cases hlt : k < ls.length
    · obtain ⟨b, off, rfl, hbl, hc1, hc2⟩ := (hA.below hb) k ls[k] (List.getElem?_eq_getElem hlt)
      have HD : Hid (ls.drop k = ls[k] :: ls.drop (k + 1)) := hide (List.drop_eq_getElem_cons hlt)
      have hin := orderIn_iff.1 (HI.out _ (List.getElem_mem hlt))
      have hin1 := hin.1
      have HIN := hide hin.2
      clear hin
      generalize ls[k] = p at *
      have HG1 : Hid (leastL ls = leastGo (leastStep a p) (ls.drop (k + 1))) := hide (by rw [HG.out, HD.out, leastGo])
      have hba : Below w.heap.size w (wr.alloc (.cells #[.int .i64 p.course, .int .i64 p.state] 121)) := by go_grown
      have HT := hide (hT.below hba)
      have hz : (0 : Int) ≤ k := by omega
      have hz2 : (k : Int) < ls.length := by omega
      cases ho : openO p with
      | false =>
        have HO := hide ho
        have HS := hide (leastStep_no (a := a) ho)
        clear ho
        go_wp2_with fail
        refine (isOpen_any p _ HIN.out HT.out).mono ?_
        rintro e w1 ⟨rfl, hB⟩
        rw [HO.out]
        have hb1 := next hba hB
        go_wp2_with fail
        go_roundw
        case rel => exact ⟨k + 1, a, hlt, by go_num, rfl, ha, ha2, by rw [HS.out] at HG1; exact HG1, hb1⟩
        case measure => simp [intOf]; omega
      | true =>
        have HO := hide ho
        by_cases h1 : a < 0
        · have HS := hide (leastStep_first (a := a) ho h1)
          have hd : decide (a < 0) = true := decide_eq_true h1
          clear ho
          go_wp2_with fail
          refine (isOpen_any p _ HIN.out HT.out).mono ?_
          rintro e w1 ⟨rfl, hB⟩
          rw [HO.out]
          have hb1 := next hba hB
          obtain ⟨hx1, hx2, hx3⟩ := box2 hB
          go_wp2_with fail
          go_roundw
          case rel => exact ⟨k + 1, p.course, hlt, by go_num, rfl, by omega, by omega, by rw [HS.out] at HG1; exact HG1, hb1⟩
          case measure => simp [intOf]; omega
        · have hd : decide (a < 0) = false := decide_eq_false h1
          by_cases h2 : p.course < a
          · have HS := hide (leastStep_less (a := a) ho h2)
            have hd2 : decide (p.course < a) = true := decide_eq_true h2
            clear ho
            go_wp2_with fail
            refine (isOpen_any p _ HIN.out HT.out).mono ?_
            rintro e w1 ⟨rfl, hB⟩
            rw [HO.out]
            have hb1 := next hba hB
            obtain ⟨hx1, hx2, hx3⟩ := box2 hB
            go_wp2_with fail
            go_roundw
            case rel => exact ⟨k + 1, p.course, hlt, by go_num, rfl, by omega, by omega, by rw [HS.out] at HG1; exact HG1, hb1⟩
            case measure => simp [intOf]; omega
          · have HS := hide (leastStep_more (a := a) (o := p) h1 h2)
            have hd2 : decide (p.course < a) = false := decide_eq_false h2
            clear ho
            go_wp2_with fail
            refine (isOpen_any p _ HIN.out HT.out).mono ?_
            rintro e w1 ⟨rfl, hB⟩
            rw [HO.out]
            have hb1 := next hba hB
            obtain ⟨hx1, hx2, hx3⟩ := box2 hB
            go_wp2_with fail
            go_roundw
            case rel => exact ⟨k + 1, a, hlt, by go_num, rfl, ha, ha2, by rw [HS.out] at HG1; exact HG1, hb1⟩
            case measure => simp [intOf]; omega
    · have H3 : Hid (leastL ls = a) := hide (by rw [HG.out, List.drop_of_length_le (by omega), leastGo])
      go_wp2_with fail
      go_ret
      exact ⟨by rw [H3.out]; rfl, hb⟩

theorem ticketOk_bad {ls : List Order} (h : ls.all orderIn = false) : ticketOkL ls = false := by rw [ticketOk_late, h]; simp
theorem all_drop_false {α : Type} {f : α → Bool} {xs : List α} {k : Nat} {x : α} (h : xs.all f = (xs.drop k).all f) (hd : xs.drop k = x :: xs.drop (k + 1)) (hx : f x = false) : xs.all f = false := by rw [h, hd, List.all_cons, hx]; rfl
theorem all_drop_true {α : Type} {f : α → Bool} {xs : List α} {k : Nat} {x : α} (h : xs.all f = (xs.drop k).all f) (hd : xs.drop k = x :: xs.drop (k + 1)) (hx : f x = true) : xs.all f = (xs.drop (k + 1)).all f := by rw [h, hd, List.all_cons, hx]; rfl
theorem all_drop_end {α : Type} {f : α → Bool} {xs : List α} {k : Nat} (h : xs.all f = (xs.drop k).all f) (hk : xs.length ≤ k) : xs.all f = true := by rw [h, List.drop_of_length_le hk]; rfl

set_option maxHeartbeats 2000000 in
theorem implTicketValid_any (A : Option Addr) (c : Nat) (ls : List Order) (w : World) (hA : OrdersAt w A ls) (hl : ls.length ≤ 1048576) (hT : PiecesAt w) :
    Calls Tryd.prog 98 #[.slice A ls.length c] w fun e w' => e = .returned (.bool (ticketOkL ls)) ∧ Below w.heap.size w w' := by
  by_cases h6 : ls.length ≤ 6
  · have hd6 : decide ((6 : Int) < ls.length) = false := decide_eq_false (by omega)
    go_enter Tryd.func98, Tryd.ntmps98
    go_wp2_with fail
    go_loopw [13] (fun i wr => ∃ k : Nat, k ≤ ls.length ∧ i = .int .i64 k ∧ Hid (ls.all orderIn = (ls.drop k).all orderIn) ∧ Below w.heap.size w wr) (fun i _ => ls.length - (intOf i).toNat)
    case atStart => exact ⟨0, Nat.zero_le _, rfl, hide rfl, by go_grown⟩
    case round =>
      obtain ⟨k, hk, rfl, HG, hb⟩ := hrel
      have hsz := hb.size
      by_cases hlt : k < ls.length
      · obtain ⟨b, off, rfl, hbl, hc1, hc2⟩ := (hA.below hb) k ls[k] (List.getElem?_eq_getElem hlt)
        have HD : Hid (ls.drop k = ls[k] :: ls.drop (k + 1)) := hide (List.drop_eq_getElem_cons hlt)
        generalize ls[k] = p at *
        have hz : (0 : Int) ≤ k := by omega
        have hz2 : (k : Int) < ls.length := by omega
        cases h1 : inR p.course 0 2 with
        | false =>
          have H1 := hide h1
          have H3 : Hid (ticketOkL ls = false) := hide (ticketOk_bad (all_drop_false HG.out HD.out (by unfold orderIn; rw [h1]; rfl)))
          clear h1
          go_wp2_with fail
          refine (inRange_is _ _ _ _ H1 _).mono ?_
          rintro e w' ⟨rfl, rfl⟩
          go_wp2_with fail
          go_ret
          exact ⟨by rw [H3.out]; rfl, by go_grown⟩
        | true =>
          have H1 := hide h1
          cases h2 : inR p.state 0 4 with
          | false =>
            have H2 := hide h2
            have H3 : Hid (ticketOkL ls = false) := hide (ticketOk_bad (all_drop_false HG.out HD.out (by unfold orderIn; rw [h1, h2]; rfl)))
            clear h1 h2
            go_wp2_with fail
            refine (inRange_is _ _ _ _ H1 _).mono ?_
            rintro e w' ⟨rfl, rfl⟩
            go_wp2_with fail
            refine (inRange_is _ _ _ _ H2 _).mono ?_
            rintro e w' ⟨rfl, rfl⟩
            go_wp2_with fail
            go_ret
            exact ⟨by rw [H3.out]; rfl, by go_grown⟩
          | true =>
            have H2 := hide h2
            have H3 := hide (all_drop_true HG.out HD.out (by unfold orderIn; rw [h1, h2]; rfl))
            clear h1 h2
            go_wp2_with fail
            refine (inRange_is _ _ _ _ H1 _).mono ?_
            rintro e w' ⟨rfl, rfl⟩
            go_wp2_with fail
            refine (inRange_is _ _ _ _ H2 _).mono ?_
            rintro e w' ⟨rfl, rfl⟩
            go_wp2_with fail
            go_roundw
            case rel => exact ⟨k + 1, hlt, by go_num, H3, by go_grown⟩
            case measure => simp [intOf]; omega
      · have HIN := hide (List.all_eq_true.1 (all_drop_end HG.out (by omega)))
        have HE : Hid (ticketOkL ls = ls.all (fun o => !lateO (leastL ls) o)) := hide (by rw [ticketOk_late, all_drop_end HG.out (by omega), decide_eq_true h6]; rfl)
        have hla := leastGo_range ls (-1) HIN.out (by omega) (by omega)
        obtain ⟨la, HLA⟩ : ∃ la, Hid (leastL ls = la) := ⟨_, hide rfl⟩
        have hla2 : -1 ≤ la ∧ la ≤ 2 := by rw [← HLA.out]; exact hla
        clear hla
        go_wp2_with fail
        refine (leastOpen_any _ _ _ _ (hA.below hb) hl HIN.out (hT.below hb)).mono ?_
        rintro e w2 ⟨rfl, hB2⟩
        rw [HLA.out] at HE ⊢
        have hb2 := next hb hB2
        clear hb hsz hB2
        go_wp2_with fail
        go_loopw [32] (fun i wr => ∃ k : Nat, k ≤ ls.length ∧ i = .int .i64 k ∧ Hid (ticketOkL ls = (ls.drop k).all (fun o => !lateO la o)) ∧ Below w.heap.size w wr) (fun i _ => ls.length - (intOf i).toNat)
        case atStart => exact ⟨0, Nat.zero_le _, rfl, HE, hb2⟩
        case round =>
          clear hb2
          obtain ⟨k, hk, rfl, HG, hb⟩ := hrel
          have hsz := hb.size
          by_cases hlt : k < ls.length
          · obtain ⟨b, off, rfl, hbl, hc1, hc2⟩ := (hA.below hb) k ls[k] (List.getElem?_eq_getElem hlt)
            have HD : Hid (ls.drop k = ls[k] :: ls.drop (k + 1)) := hide (List.drop_eq_getElem_cons hlt)
            have HST := hide (orderIn_iff.1 (HIN.out _ (List.getElem_mem hlt))).2
            generalize ls[k] = p at *
            have hz : (0 : Int) ≤ k := by omega
            have hz2 : (k : Int) < ls.length := by omega
            have hba : Below w.heap.size w (wr.alloc (.cells #[.int .i64 p.course, .int .i64 p.state] 121)) := by go_grown
            have HN : Hid (lateO la p = false → ticketOkL ls = (ls.drop (k + 1)).all (fun o => !lateO la o)) := hide (fun h => by rw [HG.out, HD.out, List.all_cons, h]; rfl)
            cases hf : firedO p with
            | false =>
              have HF := hide hf
              have H3 := hide (HN.out (by unfold lateO; rw [hf]; rfl))
              clear hf
              go_wp2_with fail
              refine (wasFired_any p _ false HF HST.out).mono ?_
              rintro e w3 ⟨rfl, hB⟩
              have hb3 := next hba hB
              obtain ⟨hx1, hx2, hx3⟩ := box2 hB
              go_wp2_with fail
              go_roundw
              case rel => exact ⟨k + 1, hlt, by go_num, H3, hb3⟩
              case measure => simp [intOf]; omega
            | true =>
              have HF := hide hf
              by_cases h0 : la ≥ 0
              · have hd0 : decide (la ≥ 0) = true := decide_eq_true h0
                by_cases h1 : p.course > la
                · have hd1 : decide (p.course > la) = true := decide_eq_true h1
                  have H3 : Hid (ticketOkL ls = false) := hide (by rw [HG.out, HD.out, List.all_cons]; unfold lateO; rw [hf, decide_eq_true (show 0 ≤ la from h0), decide_eq_true (show la < p.course from h1)]; rfl)
                  clear hf
                  go_wp2_with fail
                  refine (wasFired_any p _ true HF HST.out).mono ?_
                  rintro e w3 ⟨rfl, hB⟩
                  have hb3 := next hba hB
                  obtain ⟨hx1, hx2, hx3⟩ := box2 hB
                  go_wp2_with fail
                  go_ret
                  exact ⟨by rw [H3.out]; rfl, hb3⟩
                · have hd1 : decide (p.course > la) = false := decide_eq_false h1
                  have H3 := hide (HN.out (by unfold lateO; rw [decide_eq_false (show ¬ la < p.course from h1)]; simp))
                  clear hf
                  go_wp2_with fail
                  refine (wasFired_any p _ true HF HST.out).mono ?_
                  rintro e w3 ⟨rfl, hB⟩
                  have hb3 := next hba hB
                  obtain ⟨hx1, hx2, hx3⟩ := box2 hB
                  go_wp2_with fail
                  go_roundw
                  case rel => exact ⟨k + 1, hlt, by go_num, H3, hb3⟩
                  case measure => simp [intOf]; omega
              · have hd0 : decide (la ≥ 0) = false := decide_eq_false h0
                have H3 := hide (HN.out (by unfold lateO; rw [decide_eq_false (show ¬ 0 ≤ la from h0)]; simp))
                clear hf
                go_wp2_with fail
                refine (wasFired_any p _ true HF HST.out).mono ?_
                rintro e w3 ⟨rfl, hB⟩
                have hb3 := next hba hB
                obtain ⟨hx1, hx2, hx3⟩ := box2 hB
                go_wp2_with fail
                go_roundw
                case rel => exact ⟨k + 1, hlt, by go_num, H3, hb3⟩
                case measure => simp [intOf]; omega
          · have H3 : Hid (ticketOkL ls = true) := hide (by rw [HG.out, List.drop_of_length_le (by omega)]; rfl)
            go_wp2_with fail
            go_ret
            exact ⟨by rw [H3.out]; rfl, hb⟩
  · have hd6 : decide ((6 : Int) < ls.length) = true := decide_eq_true (by omega)
    have H3 : Hid (ticketOkL ls = false) := hide (by unfold ticketOkL; rw [decide_eq_false h6]; rfl)
    go_enter Tryd.func98, Tryd.ntmps98
    go_wp2_with fail
    go_ret
    exact ⟨by rw [H3.out]; rfl, by go_grown⟩

set_option maxHeartbeats 1000000 in
theorem l4Ready_any (A : Option Addr) (c : Nat) (ls : List Order) (n : Int) (w : World) (hA : OrdersAt w A ls) (hl : ls.length ≤ 1048576) :
    Calls Tryd.prog 92 #[.slice A ls.length c, .int .i64 n] w fun e w' => e = .returned (.bool (readyGo n ls)) ∧ w' = w := by
  go_enter Tryd.func92, Tryd.ntmps92
  go_wp2_with fail
  go_loopw [5] (fun i wr => ∃ k : Nat, k ≤ ls.length ∧ i = .int .i64 k ∧ Hid (readyGo n ls = readyGo n (ls.drop k)) ∧ wr = w) (fun i _ => ls.length - (intOf i).toNat)
  case atStart => exact ⟨0, Nat.zero_le _, rfl, hide rfl, rfl⟩
  case round =>
    obtain ⟨k, hk, rfl, HG, rfl⟩ := hrel
    by_cases hlt : k < ls.length
    · obtain ⟨b, off, rfl, hbl, hc1, hc2⟩ := hA k ls[k] (List.getElem?_eq_getElem hlt)
      have HD : Hid (ls.drop k = ls[k] :: ls.drop (k + 1)) := hide (List.drop_eq_getElem_cons hlt)
      generalize ls[k] = p at *
      have hz : (0 : Int) ≤ k := by omega
      have hz2 : (k : Int) < ls.length := by omega
      have HN : Hid ((decide (p.course < n) && openO p) = false → readyGo n ls = readyGo n (ls.drop (k + 1))) := hide (fun h => by rw [HG.out, HD.out]; unfold readyGo; rw [List.all_cons, h]; rfl)
      by_cases h1 : p.course < n
      · have hd1 : decide (p.course < n) = true := decide_eq_true h1
        by_cases h2 : p.state < 3
        · have hd2 : decide (p.state < 3) = true := decide_eq_true h2
          have H3 : Hid (readyGo n ls = false) := hide (by rw [HG.out, HD.out]; unfold readyGo openO; rw [List.all_cons, hd1, hd2]; rfl)
          go_wp2_with fail
          go_ret
          exact ⟨by rw [H3.out]; rfl, rfl⟩
        · have hd2 : decide (p.state < 3) = false := decide_eq_false h2
          have H3 := hide (HN.out (by unfold openO; rw [hd2]; simp))
          go_wp2_with fail
          go_roundw
          case rel => exact ⟨k + 1, hlt, by go_num, H3, trivial⟩
          case measure => simp [intOf]; omega
      · have hd1 : decide (p.course < n) = false := decide_eq_false h1
        have H3 := hide (HN.out (by rw [hd1]; rfl))
        go_wp2_with fail
        go_roundw
        case rel => exact ⟨k + 1, hlt, by go_num, H3, trivial⟩
        case measure => simp [intOf]; omega
    · have H3 : Hid (readyGo n ls = true) := hide (by rw [HG.out, List.drop_of_length_le (by omega)]; rfl)
      go_wp2_with fail
      go_ret
      exact ⟨by rw [H3.out]; rfl, rfl⟩

theorem ticketOk_row {ls : List Order} (h : ls.all (ticketRow ls) = false) : ticketOkL ls = false := by unfold ticketOkL; rw [h]; simp

set_option maxHeartbeats 2000000 in
theorem specTicketValid_any (A : Option Addr) (c : Nat) (ls : List Order) (w : World) (hA : OrdersAt w A ls) (hl : ls.length ≤ 1048576) :
    Calls Tryd.prog 66 #[.slice A ls.length c] w fun e w' => e = .returned (.bool (ticketOkL ls)) ∧ Below w.heap.size w w' := by
  go_enter Tryd.func66, Tryd.ntmps66
  go_wp2_with fail
  go_loopw [3] (fun i wr => ∃ k : Nat, k ≤ ls.length ∧ i = .int .i64 k ∧ Hid (ls.all (ticketRow ls) = (ls.drop k).all (ticketRow ls)) ∧ Below w.heap.size w wr) (fun i _ => ls.length - (intOf i).toNat)
  case atStart => exact ⟨0, Nat.zero_le _, rfl, hide rfl, by go_grown⟩
  case round =>
    obtain ⟨k, hk, rfl, HG, hb⟩ := hrel
    have hsz := hb.size
    by_cases hlt : k < ls.length
    · obtain ⟨b, off, rfl, hbl, hc1, hc2⟩ := (hA.below hb) k ls[k] (List.getElem?_eq_getElem hlt)
      have HD : Hid (ls.drop k = ls[k] :: ls.drop (k + 1)) := hide (List.drop_eq_getElem_cons hlt)
      generalize ls[k] = p at *
      have HA := hide ((hA.below hb).below (w' := wr.alloc (.cells #[.int .i64 p.course, .int .i64 p.state] 121)) (by go_grown))
      have hz : (0 : Int) ≤ k := by omega
      have hz2 : (k : Int) < ls.length := by omega
      cases h1 : inR p.course 0 2 with
      | false =>
        have H1 := hide h1
        have H3 : Hid (ticketOkL ls = false) := hide (ticketOk_row (all_drop_false HG.out HD.out (by unfold ticketRow orderIn; rw [h1]; rfl)))
        clear h1
        go_wp2_with fail
        refine (l1In_is _ _ _ _ H1 _).mono ?_
        rintro e w' ⟨rfl, rfl⟩
        go_wp2_with fail
        go_ret
        exact ⟨by rw [H3.out]; rfl, by go_grown⟩
      | true =>
        have H1 := hide h1
        cases h2 : inR p.state 0 4 with
        | false =>
          have H2 := hide h2
          have H3 : Hid (ticketOkL ls = false) := hide (ticketOk_row (all_drop_false HG.out HD.out (by unfold ticketRow orderIn; rw [h1, h2]; rfl)))
          clear h1 h2
          go_wp2_with fail
          refine (l1In_is _ _ _ _ H1 _).mono ?_
          rintro e w' ⟨rfl, rfl⟩
          go_wp2_with fail
          refine (l1In_is _ _ _ _ H2 _).mono ?_
          rintro e w' ⟨rfl, rfl⟩
          go_wp2_with fail
          go_ret
          exact ⟨by rw [H3.out]; rfl, by go_grown⟩
        | true =>
          have H2 := hide h2
          have HO : Hid (orderIn p = true) := hide (by unfold orderIn; rw [h1, h2]; rfl)
          cases h3 : inR p.state 1 3 with
          | false =>
            have H3 := hide h3
            have H4 := hide (all_drop_true HG.out HD.out (by unfold ticketRow firedO; rw [HO.out, h3]; rfl))
            clear h1 h2 h3
            go_wp2_with fail
            refine (l1In_is _ _ _ _ H1 _).mono ?_
            rintro e w' ⟨rfl, rfl⟩
            go_wp2_with fail
            refine (l1In_is _ _ _ _ H2 _).mono ?_
            rintro e w' ⟨rfl, rfl⟩
            go_wp2_with fail
            refine (l1In_is _ _ _ _ H3 _).mono ?_
            rintro e w' ⟨rfl, rfl⟩
            go_wp2_with fail
            go_roundw
            case rel => exact ⟨k + 1, hlt, by go_num, H4, by go_grown⟩
            case measure => simp [intOf]; omega
          | true =>
            have H3 := hide h3
            cases h4 : readyGo p.course ls with
            | false =>
              have HR := hide h4
              have H4 : Hid (ticketOkL ls = false) := hide (ticketOk_row (all_drop_false HG.out HD.out (by unfold ticketRow firedO; rw [h3, h4]; simp)))
              clear h1 h2 h3 h4
              go_wp2_with fail
              refine (l1In_is _ _ _ _ H1 _).mono ?_
              rintro e w' ⟨rfl, rfl⟩
              go_wp2_with fail
              refine (l1In_is _ _ _ _ H2 _).mono ?_
              rintro e w' ⟨rfl, rfl⟩
              go_wp2_with fail
              refine (l1In_is _ _ _ _ H3 _).mono ?_
              rintro e w' ⟨rfl, rfl⟩
              go_wp2_with fail
              refine (l4Ready_any _ _ _ _ _ HA.out hl).mono ?_
              rintro e w' ⟨rfl, rfl⟩
              rw [HR.out]
              go_wp2_with fail
              go_ret
              exact ⟨by rw [H4.out]; rfl, by go_grown⟩
            | true =>
              have HR := hide h4
              have H4 := hide (all_drop_true HG.out HD.out (by unfold ticketRow firedO; rw [HO.out, h4]; simp))
              clear h1 h2 h3 h4
              go_wp2_with fail
              refine (l1In_is _ _ _ _ H1 _).mono ?_
              rintro e w' ⟨rfl, rfl⟩
              go_wp2_with fail
              refine (l1In_is _ _ _ _ H2 _).mono ?_
              rintro e w' ⟨rfl, rfl⟩
              go_wp2_with fail
              refine (l1In_is _ _ _ _ H3 _).mono ?_
              rintro e w' ⟨rfl, rfl⟩
              go_wp2_with fail
              refine (l4Ready_any _ _ _ _ _ HA.out hl).mono ?_
              rintro e w' ⟨rfl, rfl⟩
              rw [HR.out]
              go_wp2_with fail
              go_roundw
              case rel => exact ⟨k + 1, hlt, by go_num, H4, by go_grown⟩
              case measure => simp [intOf]; omega
    · have H5 : Hid (ticketOkL ls = decide ((ls.length : Int) ≤ 6)) := hide (by
        unfold ticketOkL
        rw [all_drop_end HG.out (by omega), Bool.and_true]
        exact decide_eq_decide.2 (by omega))
      go_wp2_with fail
      go_ret
      exact ⟨by rw [H5.out]; rfl, hb⟩
end Go.Proofs.YtmepnilnlpoodaaDoor
