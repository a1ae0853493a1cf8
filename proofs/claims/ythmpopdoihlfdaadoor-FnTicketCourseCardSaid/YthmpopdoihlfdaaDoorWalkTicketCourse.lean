/- For all drawn bytes the law of TicketCourse answers true, and its argument reads as it did.
   Conditions: piecesLeft holds what the source says. -/
import Derived.Test.YthmpopdoihlfdaaDoorDrawTickK
import Derived.Test.YthmpopdoihlfdaaDoorAlive
import Derived.Test.YthmpopdoihlfdaaDoorTick3
import Derived.Test.YthmpopdoihlfdaaDoorTickMath2
namespace Go.Proofs.YthmpopdoihlfdaaDoor
open Go.RowKit Go.ChangeShapes Go.WideShapes Go.ChangeAt Go.Deep

def someAt (c : Int) (r : List Order) : Bool := r.any fun o => decide (o.course = c) && openO o

set_option maxRecDepth 100000 in
set_option maxHeartbeats 4000000 in
theorem lawTicketCourse_any (A : Option Addr) (c m : Nat) (w : World) (hB : BytesIn w A m) (hc : m ≤ c) (hc2 : c ≤ 9223372036854775807) (hTP : PiecesAt w) :
    Calls Tryd.prog 7 #[.slice A m c] w fun e w' => e = .returned (.bool true) ∧ Below w.heap.size w w' := by
  by_cases hlen : (1048576 : Int) < m
  · go_enter Tryd.func7, Tryd.ntmps7
    go_wp2_with fail
    go_ret
    exact ⟨rfl, by go_grown⟩
  · go_enter Tryd.func7, Tryd.ntmps7
    go_wp2_with fail
    refine (drawTicketCourse_any A c m w hB (by omega) hc hc2).mono ?_
    rintro e w1 ⟨t, D, d, rfl, hS, h7, hb1⟩
    have HT := hide hS.orders
    have htl : t.length ≤ 1048576 := by omega
    have HTP1 := hide (hTP.below hb1)
    clear hS
    obtain ⟨q, HQ⟩ : ∃ q, Hid (courseL t = q) := ⟨_, hide rfl⟩
    have hqr : -1 ≤ q ∧ q ≤ 2 := by rw [← HQ.out]; exact courseL_range t
    have hqq : (q != q) = false := by simp
    go_wp2_with fail
    refine (implTicketCourse_any _ _ _ _ HT.out htl HTP1.out).mono ?_
    rintro e w2 ⟨rfl, hB2⟩
    rw [HQ.out]
    have hb2 := next hb1 hB2
    have HT2 := hide (HT.out.below hB2)
    go_wp2_with fail
    refine (specTicketCourse_any _ _ _ _ HT2.out htl).mono ?_
    rintro e w3 ⟨rfl, hB3⟩
    rw [HQ.out]
    have hb3 := next hb2 hB3
    have HT3 := hide (HT2.out.below hB3)
    have HTP3 := hide (hTP.below hb3)
    clear hB2 hB3 HT HT2
    by_cases hq : q < 0
    · obtain ⟨e1, e2⟩ := courseL_done (show courseL t < 0 by rw [HQ.out]; exact hq)
      have hq1 : q = -1 := by rw [← HQ.out]; exact e1
      subst hq1
      have HD := hide e2
      clear e1 e2
      obtain ⟨v, HV⟩ : ∃ v, Hid (ticketOkL t = v) := ⟨_, hide rfl⟩
      have hvv : (v == v) = true := by simp
      go_wp2_with fail
      refine (implTicketDone_any _ _ _ _ HT3.out htl HTP3.out).mono ?_
      rintro e w4 ⟨rfl, hB4⟩
      rw [HD.out, HV.out]
      have hb4 := next hb3 hB4
      have HT4 := hide (HT3.out.below hB4)
      have HTP4 := hide (hTP.below hb4)
      go_wp2_with fail
      refine (implTicketValid_any _ _ _ _ HT4.out htl HTP4.out).mono ?_
      rintro e w5 ⟨rfl, hB5⟩
      rw [HV.out]
      have hb5 := next hb4 hB5
      go_wp2_with fail
      refine (alive_any _).mono ?_
      rintro e w6 ⟨rfl, hB6⟩
      have hb6 := next hb5 hB6
      go_wp2_with fail
      go_ret
      exact ⟨rfl, hb6⟩
    · obtain ⟨hok, hcl⟩ := courseL_pos (show 0 ≤ courseL t by rw [HQ.out]; omega)
      rw [HQ.out] at hcl
      have HOK := hide hok
      have HO := hide (fun (o : Order) (ho : o ∈ t) (hp : openO o = true) => (least_open hok ho hp).2)
      have HL := hide (fun (o : Order) (ho : o ∈ t) (hp : firedO o = true) => least_late hok (by rw [← hcl]; omega) ho hp)
      have HSO : Hid (someAt q t = true) := hide (by
        obtain ⟨o, ho, h1, h2⟩ := least_some (ls := t) (by rw [← hcl]; omega)
        exact List.any_eq_true.2 ⟨o, ho, by rw [h1, hcl, decide_eq_true h2]; rfl⟩)
      rw [← hcl] at HO HL
      clear hok hcl
      go_wp2_with fail
      go_loopw [5, 6] (fun sv i wr => ∃ (k : Nat) (s : Bool), k ≤ t.length ∧ i = .int .i64 k ∧ sv = .bool s ∧ Hid (someAt q t = (s || someAt q (t.drop k))) ∧ wr = w3) (fun _ i _ => t.length - (intOf i).toNat)
      case atStart => exact ⟨0, false, Nat.zero_le _, rfl, rfl, hide rfl, rfl⟩
      case round =>
        obtain ⟨k, s, hk, rfl, rfl, HG, rfl⟩ := hrel
        by_cases hlt : k < t.length
        · obtain ⟨b, off, rfl, hbl, hc1, hc2'⟩ := HT3.out k t[k] (List.getElem?_eq_getElem hlt)
          have HD : Hid (t.drop k = t[k] :: t.drop (k + 1)) := hide (List.drop_eq_getElem_cons hlt)
          have ho := HO.out _ (List.getElem_mem hlt)
          have hl := HL.out _ (List.getElem_mem hlt)
          generalize t[k] = p at *
          have hz : (0 : Int) ≤ k := by omega
          have hz2 : (k : Int) < t.length := by omega
          have HN : Hid (someAt q t = ((s || (decide (p.course = q) && openO p)) || someAt q (t.drop (k + 1)))) := hide (by
            rw [HG.out, HD.out]; unfold someAt; rw [List.any_cons, Bool.or_assoc])
          have HFI : Hid (firedO p = false ∨ ¬ p.course > q) := hide (by
            cases hf : firedO p with
            | false => exact .inl rfl
            | true => exact .inr (by have := hl hf; omega))
          clear hl
          rcases Int.lt_trichotomy p.course q with h | h | h
          · have hs3 : decide (p.state < 3) = false := by
              cases hop : openO p with
              | false => exact hop
              | true => have := ho hop; omega
            have he : (p.course == q) = false := beq_false_of_ne (by omega)
            have he2 : decide (p.course = q) = false := decide_eq_false (by omega)
            have h1 : decide (p.course < q) = true := decide_eq_true h
            have h2 : decide (p.course > q) = false := decide_eq_false (by omega)
            clear ho h
            cases s with
            | false =>
              go_wp2_with fail
              go_roundw
              case rel => exact ⟨k + 1, false, hlt, by go_num, rfl, hide (by rw [HN.out]; rw [he2]; simp), trivial⟩
              case measure => simp [intOf]; omega
            | true =>
              go_wp2_with fail
              go_roundw
              case rel => exact ⟨k + 1, true, hlt, by go_num, rfl, hide (by rw [HN.out]; rw [he2]; simp), trivial⟩
              case measure => simp [intOf]; omega
          · have he : (p.course == q) = true := by simp [h]
            have he2 : decide (p.course = q) = true := decide_eq_true h
            have h1 : decide (p.course < q) = false := decide_eq_false (by omega)
            have h2 : decide (p.course > q) = false := decide_eq_false (by omega)
            clear ho h
            cases s with
            | true =>
              go_wp2_with fail
              go_roundw
              case rel => exact ⟨k + 1, true, hlt, by go_num, rfl, hide (by rw [HN.out]; simp), trivial⟩
              case measure => simp [intOf]; omega
            | false =>
              by_cases h3 : p.state < 3
              · have hs3 : decide (p.state < 3) = true := decide_eq_true h3
                have ho2 : openO p = true := hs3
                go_wp2_with fail
                go_roundw
                case rel => exact ⟨k + 1, true, hlt, by go_num, rfl, hide (by rw [HN.out]; rw [he2, ho2]; simp), trivial⟩
                case measure => simp [intOf]; omega
              · have hs3 : decide (p.state < 3) = false := decide_eq_false h3
                have ho2 : openO p = false := hs3
                go_wp2_with fail
                go_roundw
                case rel => exact ⟨k + 1, false, hlt, by go_num, rfl, hide (by rw [HN.out]; rw [he2, ho2]; simp), trivial⟩
                case measure => simp [intOf]; omega
          · have he : (p.course == q) = false := beq_false_of_ne (by omega)
            have he2 : decide (p.course = q) = false := decide_eq_false (by omega)
            have h1 : decide (p.course < q) = false := decide_eq_false (by omega)
            have h2 : decide (p.course > q) = true := decide_eq_true h
            have hfi : firedO p = false := HFI.out.resolve_right (fun hn => hn h)
            unfold firedO inR at hfi
            rw [decide_eq_false_iff_not] at hfi
            clear ho h
            by_cases h4 : p.state ≥ 1
            · have h5 : decide (p.state ≥ 1) = true := decide_eq_true h4
              have h6 : decide (p.state ≤ 3) = false := decide_eq_false (by omega)
              clear hfi h4
              cases s with
              | false =>
                go_wp2_with fail
                go_roundw
                case rel => exact ⟨k + 1, false, hlt, by go_num, rfl, hide (by rw [HN.out]; rw [he2]; simp), trivial⟩
                case measure => simp [intOf]; omega
              | true =>
                go_wp2_with fail
                go_roundw
                case rel => exact ⟨k + 1, true, hlt, by go_num, rfl, hide (by rw [HN.out]; rw [he2]; simp), trivial⟩
                case measure => simp [intOf]; omega
            · have h5 : decide (p.state ≥ 1) = false := decide_eq_false h4
              clear hfi h4
              cases s with
              | false =>
                go_wp2_with fail
                go_roundw
                case rel => exact ⟨k + 1, false, hlt, by go_num, rfl, hide (by rw [HN.out]; rw [he2]; simp), trivial⟩
                case measure => simp [intOf]; omega
              | true =>
                go_wp2_with fail
                go_roundw
                case rel => exact ⟨k + 1, true, hlt, by go_num, rfl, hide (by rw [HN.out]; rw [he2]; simp), trivial⟩
                case measure => simp [intOf]; omega
        · have H3 : Hid (s = true) := hide (by
            have := HG.out
            rw [HSO.out, List.drop_of_length_le (by omega)] at this
            simpa [someAt] using this.symm)
          have hz2 : ¬ (k : Int) < t.length := by omega
          go_wp2_with fail
          go_ret
          exact ⟨by rw [H3.out]; rfl, hb3⟩
end Go.Proofs.YthmpopdoihlfdaaDoor
