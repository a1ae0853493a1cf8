/- For all drawn bytes the law of TicketDone answers true, and its argument reads as it did.
   Conditions: the two tables hold what the source says. -/
import Derived.Test.YthmpopdoihlfdaaDoorDrawTickK
import Derived.Test.YthmpopdoihlfdaaDoorRunMath
import Derived.Test.YthmpopdoihlfdaaDoorAlive
import Derived.Test.YthmpopdoihlfdaaDoorTick3
import Derived.Test.YthmpopdoihlfdaaDoorTick4
namespace Go.Proofs.YthmpopdoihlfdaaDoor
open Go.RowKit Go.ChangeShapes Go.WideShapes Go.ChangeAt Go.Deep

theorem ticksOne {w : World} {g c : Nat} {A : Option Addr} {x : List Order} (hg : w.heap[g]? = some (.cells #[.slice A x.length c] 23 (0, 0))) (hI : OrdersAt w A x) : TicksAt w (some ⟨g, 0, none⟩) [x] := by
  intro i y hy
  cases i with
  | zero =>
    obtain rfl : x = y := by simpa using hy
    exact ⟨g, 0, A, c, rfl, (Array.getElem?_eq_some_iff.1 hg).1, by simp [World.cell?, hg], hI⟩
  | succ i => simp at hy

theorem one_ok {t : List Order} (h : ticketOkL t = true) : kitchenOkL [t] = true := by unfold kitchenOkL; simp [h]

/-- A ticket, drawn from bytes, that may have been worked on to its end. -/
def DrawnTickAt (w : World) (e : Ending) (w' : World) : Prop := ∃ (ls : List Order) (A : Option Addr) (c : Nat), e = .returned (.slice A ls.length c) ∧ OrdersAt w' A ls ∧ ls.length ≤ 1048576 ∧ Below w.heap.size w w'

set_option maxRecDepth 100000 in
set_option maxHeartbeats 2000000 in
theorem drawTicketDone_any (A : Option Addr) (c m : Nat) (w : World) (hB : BytesIn w A m) (hm : m ≤ 9223372036854775807) (hc : m ≤ c) (hc2 : c ≤ 9223372036854775807) :
    Calls Tryd.prog 35 #[.slice A m c] w (DrawnTickAt w) := by
  go_enter Tryd.func35, Tryd.ntmps35
  go_wp2_with fail
  refine (open_any A c m w hB hm hc hc2).mono ?_
  rintro e w1 ⟨rfl, hR1, hb1⟩
  have hz1 := hb1.size
  have hlt1 := hR1.lt
  go_wp2_with fail
  refine (l20Ticket_any w.heap.size 0 9 _ hR1 (by omega) (by omega)).mono ?_
  rintro e w2 ⟨ls, A2, c2, rfl, hS2, hl7, hR2, hg2⟩
  have hb2 : Below w.heap.size w w2 := hb1.grown hg2 hz1 (fun j hj => by injection hj with hj; omega)
  have HS2 := hide hS2
  have hll : ls.length ≤ 1048576 := by omega
  clear hg2 hS2
  go_wp2_with fail
  refine (pick_any w.heap.size _ 3 _ hR2 (by omega) (by omega)).mono ?_
  rintro e w3 ⟨v, rfl, h0, h1, hR3, hg3⟩
  have hb3 : Below w.heap.size w w3 := hb2.grown hg3 hb2.size (fun j hj => by injection hj with hj; omega)
  have HT3 := hide (OrderSl.orders (row_pickR HS2.out hlt1 hg3))
  clear hg3 hR3 hR2 HS2
  by_cases hv : v = 0
  · subst hv
    obtain ⟨ok, HOK⟩ : ∃ ok, Hid (ticketOkL ls = ok) := ⟨_, hide rfl⟩
    go_wp2_with fail
    refine (specTicketValid_any _ _ _ _ HT3.out hll).mono ?_
    rintro e w4 ⟨rfl, hB4⟩
    rw [HOK.out]
    have hb4 := next hb3 hB4
    have HT4 := hide (HT3.out.below hB4)
    cases ok with
    | false =>
      go_wp2_with fail
      refine bodyPost_ret (results_tmp rfl _ _ _) rfl ⟨ls, A2, c2, rfl, HT4.out, hll, hb4⟩
    | true =>
      have HKO := hide (one_ok HOK.out)
      obtain ⟨y, hy⟩ : ∃ y, (workRunL [ls] 99).1 = [y] := List.length_eq_one_iff.1 (by have := (runL_all HKO.out).2.1; simpa using this)
      have HY := hide hy
      have hyl : y.length ≤ 1048576 := (runL_rows [ls] 99).2 y (by rw [hy]; simp)
      obtain ⟨n, HN⟩ : ∃ n, Hid ((workRunL [ls] 99).2 = n) := ⟨_, hide rfl⟩
      have HTW : Hid (TicksAt (w4.alloc (.cells #[.slice A2 ls.length c2] 23)) (some ⟨w4.heap.size, 0, none⟩) [ls]) := hide (ticksOne (heap_alloc_new w4 _) (HT4.out.below (by go_grown)))
      have HZ : Hid (∀ z ∈ [ls], z.length ≤ 1048576) := hide (fun z hz => by
        obtain rfl : z = ls := by simpa using hz
        exact hll)
      clear hy
      go_wp2_with fail
      refine (specWorkRun_any (some ⟨w4.heap.size, 0, none⟩) _ [ls] 99 _ HTW.out (by simp) HZ.out).mono ?_
      rintro e w5 ⟨u, rfl, hU, hB5⟩
      rw [HY.out] at hU
      rw [HN.out]
      obtain ⟨A5, c5, rfl, hR5⟩ := hU.form
      obtain ⟨b, off, A', c', rfl, hbl, hc1, hI⟩ := hR5 0 y rfl
      rw [Nat.add_zero] at hc1
      have HI := hide hI
      have hb5 : Below w.heap.size w w5 := next hb4 (Below.trans (by go_grown) (hB5.mono (by simp)))
      clear hU hR5 hI
      simp only [List.length_cons, List.length_nil]
      go_wp2_with fail
      refine bodyPost_ret (results_tmp rfl _ _ _) rfl ⟨y, A', c', rfl, HI.out, hyl, hb5⟩
  · have hvb : (v == 0) = false := beq_false_of_ne hv
    go_wp2_with fail
    refine bodyPost_ret (results_tmp rfl _ _ _) rfl ⟨ls, A2, c2, rfl, HT3.out, hll, hb3⟩

set_option maxRecDepth 100000 in
set_option maxHeartbeats 4000000 in
theorem lawTicketDone_any (A : Option Addr) (c m : Nat) (w : World) (hB : BytesIn w A m) (hc : m ≤ c) (hc2 : c ≤ 9223372036854775807) (hTP : PiecesAt w) (hTN : NextAt w) :
    Calls Tryd.prog 8 #[.slice A m c] w fun e w' => e = .returned (.bool true) ∧ Below w.heap.size w w' := by
  by_cases hlen : (1048576 : Int) < m
  · go_enter Tryd.func8, Tryd.ntmps8
    go_wp2_with fail
    go_ret
    exact ⟨rfl, by go_grown⟩
  · go_enter Tryd.func8, Tryd.ntmps8
    go_wp2_with fail
    refine (drawTicketDone_any A c m w hB (by omega) hc hc2).mono ?_
    rintro e w1 ⟨t, D, d, rfl, hT, htl, hb1⟩
    have HT1 := hide hT
    clear hT
    have HTP1 := hide (hTP.below hb1)
    have HN : Hid (doneL [] = true) := hide (by decide)
    obtain ⟨ok, HK⟩ : ∃ ok, Hid (doneL t = ok) := ⟨_, hide rfl⟩
    have hkk : (ok != ok) = false := by simp
    go_wp2_with fail
    refine (implTicketDone_any _ _ _ _ HT1.out htl HTP1.out).mono ?_
    rintro e w2 ⟨rfl, hB2⟩
    rw [HK.out]
    have hb2 := next hb1 hB2
    have HT2 := hide (HT1.out.below hB2)
    go_wp2_with fail
    refine (specTicketDone_any _ _ _ _ HT2.out htl).mono ?_
    rintro e w3 ⟨rfl, hB3⟩
    rw [HK.out]
    have hb3 := next hb2 hB3
    have HT3 := hide (HT2.out.below hB3)
    clear hB2 hB3 HT1 HT2 HTP1
    go_wp2_with fail
    go_loopw [5, 6, 7, 8] (fun iv _ _ _ wr => ∃ k : Nat, k ≤ t.length ∧ iv = .int .i64 k ∧ Below w3.heap.size w3 wr) (fun iv _ _ _ _ => t.length - (intOf iv).toNat)
    case atStart => exact ⟨0, Nat.zero_le _, rfl, Below.refl _ _⟩
    case round =>
      obtain ⟨k, hk, rfl, hd⟩ := hrel
      have hb := next hb3 hd
      by_cases hlt : k < t.length ∧ ok = true
      · obtain ⟨hlt, rfl⟩ := hlt
        have hz2 : (k : Int) < t.length := by omega
        have HNO := hide (fun e : Int => done_do HK.out (k : Int) e)
        go_wp2_with fail
        go_loopw [6, 7, 8] (fun iv _ _ wr2 => ∃ j : Nat, j ≤ 4 ∧ iv = .int .i64 j ∧ Below w3.heap.size w3 wr2) (fun iv _ _ _ => 4 - (intOf iv).toNat)
        case atStart => exact ⟨0, Nat.zero_le _, rfl, hd⟩
        case round =>
          obtain ⟨j, hj, rfl, hd2⟩ := hrel
          have hb4 := next hb3 hd2
          have HT4 := hide (HT3.out.below hd2)
          have HTP4 := hide (hTP.below hb4)
          have HTN4 := hide (hTN.below hb4)
          by_cases hj3 : j ≤ 3
          · have hj4 : (j : Int) ≤ 3 := by omega
            go_wp2_with fail
            refine (implTicketDo_any _ _ _ _ _ _ HT4.out htl HTP4.out HTN4.out).mono ?_
            rintro e w5 ⟨u, rfl, hU, hB5⟩
            rw [HNO.out]
            have hd5 := next hd2 hB5
            obtain ⟨A5, c5, rfl, -⟩ := OrderSl.form hU
            clear hU
            go_wp2_with fail
            go_roundw
            case rel => exact ⟨j + 1, by omega, by go_num, hd5⟩
            case measure => simp [intOf]; omega
          · have hj4 : ¬ (j : Int) ≤ 3 := by omega
            go_wp2_with fail
            go_roundw
            case rel => exact ⟨k + 1, hlt, by go_num, hd2⟩
            case measure => simp [intOf]; omega
      · have HTP4 := hide (hTP.below hb)
        have hcase : ok = false ∨ (ok = true ∧ ¬ k < t.length) := by
          cases ok with
          | false => exact .inl rfl
          | true => exact .inr ⟨rfl, fun h => hlt ⟨h, rfl⟩⟩
        rcases hcase with rfl | ⟨rfl, hlt⟩
        · clear hlt
          by_cases hlt : k < t.length
          · have hz2 : (k : Int) < t.length := by omega
            go_wp2_with fail
            refine (implTicketDone_any none 0 [] _ (OrdersAt.nilR _ _) (by simp) HTP4.out).mono ?_
            rintro e w5 ⟨rfl, hB5⟩
            rw [HN.out]
            have hb5 := next hb hB5
            go_wp2_with fail
            refine (alive_any _).mono ?_
            rintro e w6 ⟨rfl, hB6⟩
            have hb6 := next hb5 hB6
            go_wp2_with fail
            go_ret
            exact ⟨rfl, hb6⟩
          · have hz2 : ¬ (k : Int) < t.length := by omega
            go_wp2_with fail
            refine (implTicketDone_any none 0 [] _ (OrdersAt.nilR _ _) (by simp) HTP4.out).mono ?_
            rintro e w5 ⟨rfl, hB5⟩
            rw [HN.out]
            have hb5 := next hb hB5
            go_wp2_with fail
            refine (alive_any _).mono ?_
            rintro e w6 ⟨rfl, hB6⟩
            have hb6 := next hb5 hB6
            go_wp2_with fail
            go_ret
            exact ⟨rfl, hb6⟩
        · have hz2 : ¬ (k : Int) < t.length := by omega
          go_wp2_with fail
          refine (implTicketDone_any none 0 [] _ (OrdersAt.nilR _ _) (by simp) HTP4.out).mono ?_
          rintro e w5 ⟨rfl, hB5⟩
          rw [HN.out]
          have hb5 := next hb hB5
          go_wp2_with fail
          refine (alive_any _).mono ?_
          rintro e w6 ⟨rfl, hB6⟩
          have hb6 := next hb5 hB6
          go_wp2_with fail
          go_ret
          exact ⟨rfl, hb6⟩
end Go.Proofs.YthmpopdoihlfdaaDoor
