/- For all drawn bytes the law of TicketDo answers true, and its argument reads as it did.
   Conditions: the two tables hold what the source says. -/
import Derived.Test.YthmpopdoihlfdaaDoorDrawTickK
import Derived.Test.YthmpopdoihlfdaaDoorAlive
import Derived.Test.YthmpopdoihlfdaaDoorTick4
import Derived.Test.YthmpopdoihlfdaaDoorTickMath2
import Derived.Test.YthmpopdoihlfdaaDoorSame2
namespace Go.Proofs.YthmpopdoihlfdaaDoor
open Go.RowKit Go.ChangeShapes Go.WideShapes Go.ChangeAt Go.Deep

def DrawnTickDo (w : World) (e : Ending) (w' : World) : Prop := ∃ (ls : List Order) (A : Option Addr) (c : Nat) (i v : Int), e = .returned (.tuple #[.slice A ls.length c, .int .i64 i, .int .i64 v]) ∧ OrderSl w' w.heap.size (.slice A ls.length c) ls ∧ ls.length ≤ 7 ∧ Below w.heap.size w w'

set_option maxHeartbeats 1000000 in
theorem drawTicketDo_any (A : Option Addr) (c m : Nat) (w : World) (hB : BytesIn w A m) (hm : m ≤ 9223372036854775807) (hc : m ≤ c) (hc2 : c ≤ 9223372036854775807) :
    Calls Tryd.prog 23 #[.slice A m c] w (DrawnTickDo w) := by
  go_enter Tryd.func23, Tryd.ntmps23
  go_wp2_with fail
  refine (open_any A c m w hB hm hc hc2).mono ?_
  rintro e w1 ⟨rfl, hR1, hb1⟩
  have hz1 := hb1.size
  go_wp2_with fail
  refine (l20Ticket_any w.heap.size 0 9 _ hR1 (by omega) (by omega)).mono ?_
  rintro e w2 ⟨ls, A2, c2, rfl, hS2, hl7, hR2, hg2⟩
  have hb2 : Below w.heap.size w w2 := hb1.grown hg2 hz1 (fun j hj => by injection hj with hj; omega)
  have HS2 := hide hS2
  have hlt1 := hR1.lt
  clear hg2 hS2
  go_wp2_with fail
  refine (pick_any w.heap.size _ _ _ hR2 (by omega) (by omega)).mono ?_
  rintro e w3 ⟨v1, rfl, h10, h11, hR3, hg3⟩
  go_wp2_with fail
  refine (pick_any w.heap.size _ 20 _ hR3 (by omega) (by omega)).mono ?_
  rintro e w4 ⟨v2, rfl, h20, h21, hR4, hg4⟩
  have hv2 : v2 ≤ 19 := by omega
  have hq2 : 0 ≤ v2 / 19 ∧ v2 / 19 ≤ 1 := by omega
  obtain ⟨hq20, hq21⟩ := hq2
  have hv1 : v1 ≤ 8 := by omega
  go_wp2_with fail
  refine (pick_any w.heap.size _ 4 _ hR4 (by omega) (by omega)).mono ?_
  rintro e w5 ⟨v3, rfl, h30, h31, hR5, hg5⟩
  have hv3 : v3 ≤ 3 := by omega
  go_wp2_with fail
  refine (pick_any w.heap.size _ 20 _ hR5 (by omega) (by omega)).mono ?_
  rintro e w6 ⟨v4, rfl, h40, h41, hR6, hg6⟩
  have hv4 : v4 ≤ 19 := by omega
  have hq4 : 0 ≤ v4 / 19 ∧ v4 / 19 ≤ 1 := by omega
  obtain ⟨hq40, hq41⟩ := hq4
  have hG : w2.grownBy w6 (some w.heap.size) := ((hg3.trans hg4).trans hg5).trans hg6
  have hb6 : Below w.heap.size w w6 := hb2.grown hG hb2.size (fun j hj => by injection hj with hj; omega)
  have HS6 := hide (ownsRow_mono (row_pickR HS2.out hlt1 hG) hz1)
  clear hG hR3 hg3 hR2 hg4 hg5 hg6 hR4 hR5
  go_wp2_with fail
  refine bodyPost_ret (v := .tuple #[.slice A2 ls.length c2, .int .i64 (v1 - v2 / 19), .int .i64 (v3 + v4 / 19 * 4)]) (by simp [results, Tryd.results23, go_sem]) rfl ⟨ls, A2, c2, _, _, rfl, HS6.out, hl7, hb6⟩

set_option maxHeartbeats 400000 in
theorem sameTicket_none (A : Option Addr) (c c' n : Nat) (w : World) (B : Option Addr) (h : 0 < n) (hn : n ≤ 1048576) :
    Calls Tryd.prog 20 #[.slice A 0 c, .slice B n c'] w fun e w' => e = .returned (.bool false) ∧ Below w.heap.size w w' := by
  have he : ((0 : Int) != n) = true := by simp; omega
  go_enter Tryd.func20, Tryd.ntmps20
  go_wp2_with fail
  go_ret
  exact ⟨rfl, by go_grown⟩

/-- No dish of a later course was fired. -/
theorem valid_fired {x : List Order} (h : ticketOkL x = true) {p q : Order} (hp : p ∈ x) (hq : q ∈ x) (hf : firedO p = true) : ¬ (q.course < p.course ∧ openO q = true) := by
  rintro ⟨h1, h2⟩
  unfold ticketOkL at h
  rw [Bool.and_eq_true, List.all_eq_true] at h
  have := h.2 p hp
  unfold ticketRow at this
  rw [hf, Bool.and_eq_true] at this
  have hr : readyGo p.course x = true := by simpa using this.2
  unfold readyGo at hr
  have := List.all_eq_true.1 hr q hq
  rw [decide_eq_true h1, h2] at this
  cases this

set_option maxRecDepth 100000 in
set_option maxHeartbeats 4000000 in
theorem lawTicketDo_any (A : Option Addr) (c m : Nat) (w : World) (hB : BytesIn w A m) (hc : m ≤ c) (hc2 : c ≤ 9223372036854775807) (hTP : PiecesAt w) (hTN : NextAt w) :
    Calls Tryd.prog 5 #[.slice A m c] w fun e w' => e = .returned (.bool true) ∧ Below w.heap.size w w' := by
  by_cases hlen : (1048576 : Int) < m
  · go_enter Tryd.func5, Tryd.ntmps5
    go_wp2_with fail
    go_ret
    exact ⟨rfl, by go_grown⟩
  · go_enter Tryd.func5, Tryd.ntmps5
    go_wp2_with fail
    refine (drawTicketDo_any A c m w hB (by omega) hc hc2).mono ?_
    rintro e w1 ⟨t, D, d, i, v, rfl, hS, h7, hb1⟩
    have HT1 := hide hS.orders
    have htl : t.length ≤ 1048576 := by omega
    have HTP1 := hide (hTP.below hb1)
    have HTN1 := hide (hTN.below hb1)
    have hxl := ticketDoL_len t i v
    obtain ⟨x, HX⟩ : ∃ x, Hid ((ticketDoL t i v).1 = x) := ⟨_, hide rfl⟩
    obtain ⟨ok, HK⟩ : ∃ ok, Hid ((ticketDoL t i v).2 = ok) := ⟨_, hide rfl⟩
    rw [HX.out] at hxl
    have hxl2 : x.length ≤ 1048576 := by omega
    have hkk : (ok != ok) = false := by simp
    clear hS
    go_wp2_with fail
    refine (implTicketDo_any _ _ _ _ _ _ HT1.out htl HTP1.out HTN1.out).mono ?_
    rintro e w2 ⟨u, rfl, hU, hB2⟩
    rw [HX.out] at hU
    rw [HK.out]
    obtain ⟨A2, c2, rfl, hI2⟩ := OrderSl.form hU
    have hb2 := next hb1 hB2
    have HT2 := hide (HT1.out.below hB2)
    have HI2 := hide hI2
    clear hU hI2
    go_wp2_with fail
    refine (specTicketDo_any _ _ _ _ _ _ HT2.out htl).mono ?_
    rintro e w3 ⟨u, rfl, hU, hB3⟩
    rw [HX.out] at hU
    rw [HK.out]
    obtain ⟨A3, c3, rfl, hI3⟩ := OrderSl.form hU
    have hb3 := next hb2 hB3
    have HT3 := hide (HT2.out.below hB3)
    have HI23 := hide (HI2.out.below hB3)
    have HI3 := hide hI3
    clear hU hI3 hB2 hB3 HT1 HT2 HI2
    go_wp2_with fail
    refine (sameTicket_same _ _ _ _ _ _ HI23.out HI3.out hxl2).mono ?_
    rintro e w4 ⟨rfl, hB4⟩
    have hb4 := next hb3 hB4
    have HT4 := hide (HT3.out.below hB4)
    have HI4 := hide (HI23.out.below hB4)
    clear hB4 HT3 HI3 HI23
    cases ok with
    | false =>
      rcases do_no HK.out with e1 | e1
      · obtain rfl : t = x := by rw [← HX.out]; exact e1.symm
        clear e1
        go_wp2_with fail
        refine (sameTicket_same _ _ _ _ _ _ HI4.out HT4.out htl).mono ?_
        rintro e w5 ⟨rfl, hB5⟩
        have hb5 := next hb4 hB5
        go_wp2_with fail
        refine (alive_any _).mono ?_
        rintro e w6 ⟨rfl, hB6⟩
        have hb6 := next hb5 hB6
        go_wp2_with fail
        go_ret
        exact ⟨rfl, hb6⟩
      · have HV := hide e1
        obtain rfl : x = [] := by rw [← HX.out, ticketDo_bad e1]
        have hpos : 0 < t.length := by
          cases t with
          | nil => cases e1
          | cons p r => simp
        have HTP4 := hide (hTP.below hb4)
        clear e1
        simp only [List.length_nil]
        go_wp2_with fail
        refine (sameTicket_none _ _ _ _ _ _ hpos htl).mono ?_
        rintro e w5 ⟨rfl, hB5⟩
        have hb5 := next hb4 hB5
        have HT5 := hide (HT4.out.below hB5)
        have HTP5 := hide (hTP.below hb5)
        go_wp2_with fail
        refine (implTicketValid_any _ _ _ _ HT5.out htl HTP5.out).mono ?_
        rintro e w6 ⟨rfl, hB6⟩
        rw [HV.out]
        have hb6 := next hb5 hB6
        go_wp2_with fail
        refine (alive_any _).mono ?_
        rintro e w7 ⟨rfl, hB7⟩
        have hb7 := next hb6 hB7
        go_wp2_with fail
        go_ret
        exact ⟨rfl, hb7⟩
    | true =>
      obtain ⟨k, n, rfl, hkl, hv, e1, e2, h1, h2, h3, h4⟩ := do_yes HK.out
      have hxe : x = turned t k n := by rw [← HX.out]; exact e1
      have HXV : Hid (ticketOkL x = true) := hide (by rw [hxe]; exact e2)
      have hxt : x.length = t.length := by rw [hxe]; exact turned_len ..
      have HXL := hide hxt
      have hx7 : x.length ≤ t.length := by omega
      have htx : t.length ≤ x.length := by omega
      obtain ⟨p0, hp0⟩ : ∃ p0, t[k]? = some p0 := ⟨_, List.getElem?_eq_getElem hkl⟩
      have hg0 : t.getD k ⟨0, 0⟩ = p0 := getD_at hp0
      rw [hg0] at h1 h2
      have hq0 : x[k]? = some ⟨p0.course, n⟩ := by rw [hxe]; unfold turned; rw [List.getElem?_set_self hkl, hg0]
      have HP0 := hide hp0
      have HQ0 := hide hq0
      have HSAME : Hid (∀ j, j ≠ k → x[j]? = t[j]?) := hide (fun j hj => by rw [hxe]; unfold turned; exact List.getElem?_set_ne (fun h => hj h.symm))
      clear hv e1 e2 hxe hxt hg0 hp0 hq0
      obtain ⟨b, off, rfl, -⟩ := HT4.out k p0 HP0.out
      obtain ⟨b2, off2, rfl, -⟩ := HI4.out k _ HQ0.out
      go_wp2_with fail
      go_loopw [10] (fun iv wr => ∃ kk : Nat, kk ≤ t.length ∧ iv = .int .i64 kk ∧ Below w4.heap.size w4 wr) (fun iv _ => t.length - (intOf iv).toNat)
      case atStart => exact ⟨0, Nat.zero_le _, rfl, Below.refl _ _⟩
      case round =>
        obtain ⟨kk, hkk2, rfl, hd⟩ := hrel
        have hb := next hb4 hd
        have hsz := hd.size
        have HT5 := hide (HT4.out.below hd)
        have HI5 := hide (HI4.out.below hd)
        by_cases hlt : kk < t.length
        · obtain ⟨b', off', hDb, hbl, hc1, hc2'⟩ := HT5.out kk t[kk] (List.getElem?_eq_getElem hlt)
          injection hDb with hDb
          injection hDb with e1 e2
          subst e1 e2
          obtain ⟨b', off', hAb, hbl2, hd1, hd2⟩ := HI5.out kk (x[kk]'(by omega)) (List.getElem?_eq_getElem (by omega))
          injection hAb with hAb
          injection hAb with e1 e2
          subst e1 e2
          have hsame : kk ≠ k → x[kk]'(by omega) = t[kk] := fun h => by
            have := HSAME.out kk h
            rw [List.getElem?_eq_getElem (by omega), List.getElem?_eq_getElem hlt] at this
            exact Option.some.inj this
          have HQM : Hid (x[kk]'(by omega) ∈ x) := hide (List.getElem_mem _)
          have HQK0 : Hid (x[kk]? = some (x[kk]'(by omega))) := hide (List.getElem?_eq_getElem (by omega))
          generalize t[kk] = p at *
          generalize (x[kk]'(by omega)) = q at *
          have hz : (0 : Int) ≤ kk := by omega
          have hz2 : (kk : Int) < t.length := by omega
          have hz3 : (kk : Int) < x.length := by omega
          have HQK : Hid (x[kk]? = some q) := HQK0
          by_cases hkk : kk = k
          · subst hkk
            have hne : ((kk : Int) != (kk : Int)) = false := by simp
            by_cases h5 : q.state ≥ 1
            · have h6 : decide (q.state ≥ 1) = true := decide_eq_true h5
              by_cases h7 : q.state ≤ 3
              · have h8 : decide (q.state ≤ 3) = true := decide_eq_true h7
                have HFI : Hid (firedO q = true) := hide (inR_iff.2 ⟨h5, h7⟩)
                clear h5 h7
                go_wp2_with fail
                go_quiet (fail)
                go_wp2_with fail
                go_loopw [11] (fun jv wr2 => ∃ j : Nat, j ≤ t.length ∧ jv = .int .i64 j ∧ Below w4.heap.size w4 wr2) (fun jv _ => t.length - (intOf jv).toNat)
                case atStart => exact ⟨0, Nat.zero_le _, rfl, below_drewN hd _⟩
                case round =>
                  obtain ⟨j, hj2, rfl, hd2⟩ := hrel
                  have hb6 := next hb4 hd2
                  have hsz6 := hd2.size
                  by_cases hjlt : j < t.length
                  · obtain ⟨b', off', hAb, hbl7, he1, he2⟩ := (HI4.out.below hd2) j (x[j]'(by omega)) (List.getElem?_eq_getElem (by omega))
                    injection hAb with hAb
                    injection hAb with e1 e2
                    subst e1 e2
                    obtain ⟨b', off', hAb, hbl8, hf1, hf2⟩ := (HI4.out.below hd2) kk q HQK.out
                    injection hAb with hAb
                    injection hAb with e1 e2
                    subst e1 e2
                    have hnv := valid_fired HXV.out HQM.out (List.getElem_mem (show j < x.length by omega)) HFI.out
                    generalize (x[j]'(by omega)) = r at *
                    have hz5 : (0 : Int) ≤ j := by omega
                    have hz6 : (j : Int) < t.length := by omega
                    have hz7 : (j : Int) < x.length := by omega
                    by_cases hlt7 : r.course < q.course
                    · have hd7 : decide (r.course < q.course) = true := decide_eq_true hlt7
                      have hd8 : decide (r.state < 3) = false := by
                        cases hop : openO r with
                        | true => exact absurd ⟨hlt7, hop⟩ hnv
                        | false => exact hop
                      clear hnv hlt7
                      go_wp2_with fail
                      go_quiet (fail)
                      go_wp2_with fail
                      go_roundw
                      case rel => exact ⟨j + 1, hjlt, by go_num, below_drewN hd2 _⟩
                      case measure => simp [intOf]; omega
                    · have hd7 : decide (r.course < q.course) = false := decide_eq_false hlt7
                      clear hnv hlt7
                      go_wp2_with fail
                      go_quiet (fail)
                      go_wp2_with fail
                      go_roundw
                      case rel => exact ⟨j + 1, hjlt, by go_num, below_drewN hd2 _⟩
                      case measure => simp [intOf]; omega
                  · have hz6 : ¬ (j : Int) < t.length := by omega
                    go_wp2_with fail
                    go_roundw
                    case rel => exact ⟨kk + 1, hlt, by go_num, hd2⟩
                    case measure => simp [intOf]; omega
              · have h8 : decide (q.state ≤ 3) = false := decide_eq_false h7
                clear h5 h7
                go_wp2_with fail
                go_quiet (fail)
                go_wp2_with fail
                go_roundw
                case rel => exact ⟨kk + 1, hlt, by go_num, below_drewN hd _⟩
                case measure => simp [intOf]; omega
            · have h6 : decide (q.state ≥ 1) = false := decide_eq_false h5
              clear h5
              go_wp2_with fail
              go_quiet (fail)
              go_wp2_with fail
              go_roundw
              case rel => exact ⟨kk + 1, hlt, by go_num, below_drewN hd _⟩
              case measure => simp [intOf]; omega
          · have hne : ((kk : Int) != (k : Int)) = true := bne_iff_ne.2 (by omega)
            obtain rfl : q = p := hsame hkk
            have hpc : (q.course == q.course) = true := by simp
            have hps : (q.state == q.state) = true := by simp
            by_cases h5 : q.state ≥ 1
            · have h6 : decide (q.state ≥ 1) = true := decide_eq_true h5
              by_cases h7 : q.state ≤ 3
              · have h8 : decide (q.state ≤ 3) = true := decide_eq_true h7
                have HFI : Hid (firedO q = true) := hide (inR_iff.2 ⟨h5, h7⟩)
                clear h5 h7
                go_wp2_with fail
                go_quiet (fail)
                go_wp2_with fail
                go_loopw [11] (fun jv wr2 => ∃ j : Nat, j ≤ t.length ∧ jv = .int .i64 j ∧ Below w4.heap.size w4 wr2) (fun jv _ => t.length - (intOf jv).toNat)
                case atStart => exact ⟨0, Nat.zero_le _, rfl, below_drewN hd _⟩
                case round =>
                  obtain ⟨j, hj2, rfl, hd2⟩ := hrel
                  have hb6 := next hb4 hd2
                  have hsz6 := hd2.size
                  by_cases hjlt : j < t.length
                  · obtain ⟨b', off', hAb, hbl7, he1, he2⟩ := (HI4.out.below hd2) j (x[j]'(by omega)) (List.getElem?_eq_getElem (by omega))
                    injection hAb with hAb
                    injection hAb with e1 e2
                    subst e1 e2
                    obtain ⟨b', off', hAb, hbl8, hf1, hf2⟩ := (HI4.out.below hd2) kk q HQK.out
                    injection hAb with hAb
                    injection hAb with e1 e2
                    subst e1 e2
                    have hnv := valid_fired HXV.out HQM.out (List.getElem_mem (show j < x.length by omega)) HFI.out
                    generalize (x[j]'(by omega)) = r at *
                    have hz5 : (0 : Int) ≤ j := by omega
                    have hz6 : (j : Int) < t.length := by omega
                    have hz7 : (j : Int) < x.length := by omega
                    by_cases hlt7 : r.course < q.course
                    · have hd7 : decide (r.course < q.course) = true := decide_eq_true hlt7
                      have hd8 : decide (r.state < 3) = false := by
                        cases hop : openO r with
                        | true => exact absurd ⟨hlt7, hop⟩ hnv
                        | false => exact hop
                      clear hnv hlt7
                      go_wp2_with fail
                      go_quiet (fail)
                      go_wp2_with fail
                      go_roundw
                      case rel => exact ⟨j + 1, hjlt, by go_num, below_drewN hd2 _⟩
                      case measure => simp [intOf]; omega
                    · have hd7 : decide (r.course < q.course) = false := decide_eq_false hlt7
                      clear hnv hlt7
                      go_wp2_with fail
                      go_quiet (fail)
                      go_wp2_with fail
                      go_roundw
                      case rel => exact ⟨j + 1, hjlt, by go_num, below_drewN hd2 _⟩
                      case measure => simp [intOf]; omega
                  · have hz6 : ¬ (j : Int) < t.length := by omega
                    go_wp2_with fail
                    go_roundw
                    case rel => exact ⟨kk + 1, hlt, by go_num, hd2⟩
                    case measure => simp [intOf]; omega
              · have h8 : decide (q.state ≤ 3) = false := decide_eq_false h7
                clear h5 h7
                go_wp2_with fail
                go_quiet (fail)
                go_wp2_with fail
                go_roundw
                case rel => exact ⟨kk + 1, hlt, by go_num, below_drewN hd _⟩
                case measure => simp [intOf]; omega
            · have h6 : decide (q.state ≥ 1) = false := decide_eq_false h5
              clear h5
              go_wp2_with fail
              go_quiet (fail)
              go_wp2_with fail
              go_roundw
              case rel => exact ⟨kk + 1, hlt, by go_num, below_drewN hd _⟩
              case measure => simp [intOf]; omega
        · have hz2 : ¬ (kk : Int) < t.length := by omega
          obtain ⟨b', off', hDb, hbl, hc1, hc2'⟩ := HT5.out k p0 HP0.out
          injection hDb with hDb
          injection hDb with e1 e2
          subst e1 e2
          obtain ⟨b', off', hAb, hbl2, hd1, hd2⟩ := HI5.out k _ HQ0.out
          injection hAb with hAb
          injection hAb with e1 e2
          subst e1 e2
          have hq1 : wr.cell? ⟨b2, off2 + k * 2, none⟩ = some (.int .i64 p0.course) := hd1
          have hq2 : wr.cell? ⟨b2, off2 + k * 2 + 1, none⟩ = some (.int .i64 n) := hd2
          clear hd1 hd2
          have HCV : Hid (Calls Tryd.prog 15 #[.slice (some ⟨b2, off2, none⟩) x.length c2] wr.drew fun e w' => e = .returned (.bool true) ∧ Below wr.drew.heap.size wr.drew w') := hide (by
            have := implTicketValid_any (some ⟨b2, off2, none⟩) c2 x wr.drew HI5.out hxl2 (hTP.below hb.drew)
            rwa [HXV.out] at this)
          have g1 : decide (n > p0.state) = true := decide_eq_true h1
          have g2 : decide (p0.state < 3) = true := decide_eq_true h2
          have g3 : (p0.course == p0.course) = true := by simp
          have hz : (0 : Int) ≤ k := by omega
          have hz4 : (k : Int) < t.length := by omega
          have hz5 : (k : Int) < x.length := by omega
          go_wp2_with fail
          go_region_held3 (fun W => W.cell? ⟨b2, off2 + k * 2 + 1, none⟩ = some (.int .i64 n) ∧ W.cell? ⟨b, off + k * 2 + 1, none⟩ = some (.int .i64 p0.state) ∧ W.cell? ⟨b2, off2 + k * 2, none⟩ = some (.int .i64 p0.course) ∧ W.cell? ⟨b, off + k * 2, none⟩ = some (.int .i64 p0.course))
            (first | exact ⟨hq2, hc2', hq1, hc1⟩ | exact ⟨(hB9.cell hbl2).trans hq2, (hB9.cell hbl).trans hc2', (hB9.cell hbl2).trans hq1, (hB9.cell hbl).trans hc1⟩)
            (first | (go_at_call 15; refine HCV.out.mono ?_; rintro e W9 ⟨rfl, hB9⟩))
          have hb9 := next hb.drew hB9
          go_wp2_with fail
          go_ret
          exact ⟨rfl, hb9⟩
end Go.Proofs.YthmpopdoihlfdaaDoor
