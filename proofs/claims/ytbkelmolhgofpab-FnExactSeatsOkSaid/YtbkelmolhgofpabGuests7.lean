/- Guests7: contracts of SeatsOk, of the program and of the reference model.
   Conditions: lists have at most 1048576 elements. -/
import Derived.Test.YtbkelmolhgofpabGuests6
namespace Go.Proofs.Ytbkelmolhgofpab
open Go.RowKit Go.ChangeShapes Go.WideShapes Go.ChangeAt Go.Deep

theorem seats_no1 {g : Int} {q s : List Int} (h : quarOk g q = false) : seatsOkL g q s = false := by unfold seatsOkL; rw [h]; rfl
theorem seats_no2 {g : Int} {q s : List Int} (h : (decide ((s.length : Int) = g) && rangeOk (g - 1) s) = false) : seatsOkL g q s = false := by unfold seatsOkL; rw [h]; simp
theorem seats_bad {g : Int} {q s : List Int} {a b : Nat} (ha : a < s.length) (hb : b < a) (h : seatBad q s a b = true) : seatsOkL g q s = false := by
  have : allN s.length (seatFine q s) = false := allN_false ha (by unfold seatFine; exact allN_false hb (by rw [h]; rfl))
  unfold seatsOkL
  rw [this]
  simp

set_option maxRecDepth 100000 in
set_option maxHeartbeats 2000000 in
theorem implSeatsOk_any (g : Int) (A B : Option Addr) (c d : Nat) (q s : List Int) (w : World) (hA : IntsAt w A q) (hl : q.length ≤ 1048576) (hB : IntsAt w B s) (hm : s.length ≤ 1048576) :
    Calls Try.prog 36 #[.int .i64 g, .slice A q.length c, .slice B s.length d] w fun e w' => e = .returned (.bool (seatsOkL g q s)) ∧ Below w.heap.size w w' := by
  cases hQ : quarOk g q with
  | false =>
    have HQ := hide hQ
    have HR := hide (seats_no1 (s := s) hQ)
    clear hQ
    go_enter Try.func36, Try.ntmps36
    go_wp2_with fail
    refine (implQuarrelsValid_any _ _ _ _ _ hA hl).mono ?_
    rintro e w1 ⟨rfl, hB1⟩
    rw [HQ.out]
    go_wp2_with fail
    go_ret
    exact ⟨by rw [HR.out]; rfl, hB1⟩
  | true =>
    have HQ := hide hQ
    have hg := quarOk_g hQ
    have h0 := hg.1
    have h1 := hg.2.1
    have HX : Hid (∀ x ∈ q, 0 ≤ x ∧ x < 64) := hide (fun x hx => ⟨(quarOk_at hQ hx).1, (quarOk_at hQ hx).2.2⟩)
    obtain ⟨n, hn⟩ : ∃ n : Nat, n = q.length := ⟨_, rfl⟩
    obtain rfl : g = n := by omega
    have hnq1 : n ≤ q.length := by omega
    have hnq2 : q.length ≤ n := by omega
    clear hn hg
    cases hr : (decide ((s.length : Int) = n) && rangeOk (n - 1) s) with
    | false =>
      have HS := hide hr
      have HR := hide (seats_no2 (q := q) hr)
      clear hr hQ
      go_enter Try.func36, Try.ntmps36
      go_wp2_with fail
      refine (implQuarrelsValid_any _ _ _ _ _ hA hl).mono ?_
      rintro e w1 ⟨rfl, hB1⟩
      rw [HQ.out]
      go_wp2_with fail
      refine (allInRange_any _ _ _ _ _ _ (hB.below hB1) hm).mono ?_
      rintro e w2 ⟨rfl, hB2⟩
      rw [HS.out]
      have hb2 := next hB1 hB2
      go_wp2_with fail
      go_ret
      exact ⟨by rw [HR.out]; rfl, hb2⟩
    | true =>
      have HS := hide hr
      have hr2 := hr
      rw [Bool.and_eq_true, decide_eq_true_eq] at hr2
      have hs1 : s.length ≤ n := by omega
      have hs2 : n ≤ s.length := by omega
      have HR : Hid (seatsOkL n q s = allN s.length (seatFine q s)) := hide (by unfold seatsOkL; rw [hQ, hr]; rfl)
      clear hr hr2 hQ
      go_enter Try.func36, Try.ntmps36
      go_wp2_with fail
      refine (implQuarrelsValid_any _ _ _ _ _ hA hl).mono ?_
      rintro e w1 ⟨rfl, hB1⟩
      rw [HQ.out]
      go_wp2_with fail
      refine (allInRange_any _ _ _ _ _ _ (hB.below hB1) hm).mono ?_
      rintro e w2 ⟨rfl, hB2⟩
      rw [HS.out]
      have hb2 := next hB1 hB2
      have hszB := hb2.size
      go_wp2_with fail
      go_loopw [24] (fun i wr => ∃ k : Nat, k ≤ s.length ∧ i = .int .i64 k ∧ Hid (∀ i, i < k → seatFine q s i = true) ∧ Below w.heap.size w wr) (fun i _ => s.length - (intOf i).toNat)
      case atStart => exact ⟨0, Nat.zero_le _, rfl, hide (fun i hi => by omega), hb2⟩
      case round =>
        obtain ⟨k, hk, rfl, HG, hb⟩ := hrel
        have hsz := hb.size
        by_cases hlt : k < s.length
        · obtain ⟨b, off, rfl, hbl, hc1⟩ := (hB.below hb) k s[k] (List.getElem?_eq_getElem hlt)
          have HP : Hid (s.getD k 0 = s[k]) := hide (by simp [hlt])
          generalize s[k] = p at *
          have hz : (0 : Int) ≤ k := by omega
          have hz2 : (k : Int) < s.length := by omega
          have hkq : k < q.length := by omega
          have HUE : Hid (q[k]? = some q[k]) := hide (List.getElem?_eq_getElem hkq)
          have HUD : Hid (q.getD k 0 = q[k]) := hide (by simp [hkq])
          have hu := HX.out q[k] (List.getElem_mem hkq)
          generalize q[k] = u at *
          have hu0 : 0 ≤ u := hu.1
          have hu1 : u < 64 := hu.2
          clear hu
          have hkq2 : (k : Int) < q.length := by omega
          go_wp2_with fail
          clear hc1
          go_loopw [30] (fun j wr => ∃ t : Nat, t ≤ k ∧ j = .int .i64 t ∧ Hid (∀ b, b < t → seatBad q s k b = false) ∧ Below w.heap.size w wr) (fun j _ => k - (intOf j).toNat)
          case atStart => exact ⟨0, Nat.zero_le _, rfl, hide (fun i hi => by omega), hb⟩
          case round =>
            obtain ⟨t, ht, rfl, HT, hb3⟩ := hrel
            have hsz3 := hb3.size
            by_cases htl : t < k
            · have hts : t < s.length := by omega
              have HYE : Hid (s[t]? = some s[t]) := hide (List.getElem?_eq_getElem hts)
              have HYD : Hid (s.getD t 0 = s[t]) := hide (by simp [hts])
              generalize s[t] = y at *
              have hcy := (hB.below hb3).cellOf HYE.out
              obtain ⟨b2, off2, rfl, hbl2, hcu⟩ := (hA.below hb3) k u HUE.out
              have ht0 : (0 : Int) ≤ t := by omega
              have ht1 : (t : Int) < k := by omega
              have ht2 : (t : Int) < s.length := by omega
              have ht3 : (t : Int) < 6 := by omega
              have HNX : seatBad q s k t = false → Hid (∀ b, b < t + 1 → seatBad q s k b = false) := fun h => hide (fun b hb => by
                by_cases e : b = t
                · subst e; exact h
                · exact HT.out b (by omega))
              cases hyp : (y == p) with
              | false =>
                have H3 := HNX (by unfold seatBad; rw [HP.out, HYD.out, hyp]; rfl)
                clear HNX
                go_wp2_with fail
                go_roundw
                case rel => exact ⟨t + 1, htl, by go_num, H3, hb3⟩
                case measure => simp [intOf]; omega
              | true =>
                cases hh : hasB u t with
                | false =>
                  have HH := hide hh
                  have H3 := HNX (by unfold seatBad; rw [HUD.out, hh]; simp)
                  clear hh HNX
                  go_wp2_with fail
                  refine (inSet_w _ _ _ hu0 hu1 ht0 ht3 false (by rw [Int.toNat_natCast]; exact HH)).mono ?_
                  rintro e w3 ⟨rfl, rfl⟩
                  go_wp2_with fail
                  go_roundw
                  case rel => exact ⟨t + 1, htl, by go_num, H3, hb3⟩
                  case measure => simp [intOf]; omega
                | true =>
                  have HH := hide hh
                  have H3 : Hid (seatsOkL n q s = false) := hide (seats_bad hlt htl (by unfold seatBad; rw [HP.out, HYD.out, HUD.out, hyp, hh]; rfl))
                  clear hh HNX
                  go_wp2_with fail
                  refine (inSet_w _ _ _ hu0 hu1 ht0 ht3 true (by rw [Int.toNat_natCast]; exact HH)).mono ?_
                  rintro e w3 ⟨rfl, rfl⟩
                  go_wp2_with fail
                  go_ret
                  exact ⟨by rw [H3.out]; rfl, hb3⟩
            · have H3 : Hid (∀ i, i < k + 1 → seatFine q s i = true) := hide (fun i hi => by
                by_cases e : i = k
                · subst e
                  unfold seatFine
                  rw [allN_iff]
                  intro b hb
                  rw [HT.out b (by omega)]
                  rfl
                · exact HG.out i (by omega))
              go_wp2_with fail
              go_roundw
              case rel => exact ⟨k + 1, hlt, by go_num, H3, hb3⟩
              case measure => simp [intOf]; omega
        · have H3 : Hid (seatsOkL n q s = true) := hide (by rw [HR.out, allN_iff]; intro i hi; exact HG.out i (by omega))
          go_wp2_with fail
          go_ret
          exact ⟨by rw [H3.out]; rfl, hb⟩

set_option maxRecDepth 100000 in
set_option maxHeartbeats 2000000 in
theorem specSeatsOk_any (g : Int) (A B : Option Addr) (c d : Nat) (q s : List Int) (w : World) (hA : IntsAt w A q) (hl : q.length ≤ 1048576) (hB : IntsAt w B s) (hm : s.length ≤ 1048576) :
    Calls Try.prog 35 #[.int .i64 g, .slice A q.length c, .slice B s.length d] w fun e w' => e = .returned (.bool (seatsOkL g q s)) ∧ Below w.heap.size w w' := by
  cases hQ : quarOk g q with
  | false =>
    have HQ := hide hQ
    have HR := hide (seats_no1 (s := s) hQ)
    clear hQ
    go_enter Try.func35, Try.ntmps35
    go_wp2_with fail
    refine (specQuarrelsValid_any _ _ _ _ _ hA hl).mono ?_
    rintro e w1 ⟨rfl, hB1⟩
    rw [HQ.out]
    go_wp2_with fail
    go_ret
    exact ⟨by rw [HR.out]; rfl, hB1⟩
  | true =>
    have HQ := hide hQ
    have hg := quarOk_g hQ
    have h0 := hg.1
    have h1 := hg.2.1
    have HX : Hid (∀ x ∈ q, 0 ≤ x ∧ x < 64) := hide (fun x hx => ⟨(quarOk_at hQ hx).1, (quarOk_at hQ hx).2.2⟩)
    obtain ⟨n, hn⟩ : ∃ n : Nat, n = q.length := ⟨_, rfl⟩
    obtain rfl : g = n := by omega
    have hnq1 : n ≤ q.length := by omega
    have hnq2 : q.length ≤ n := by omega
    clear hn hg
    by_cases hlg : s.length = n
    · have HR := hide (seatsOkL_rows hQ (s := s) (by omega))
      have hs1 : s.length ≤ n := by omega
      have hs2 : n ≤ s.length := by omega
      have hne : ((s.length : Int) != n) = false := by simp [hlg]
      have HNO : Hid (∀ k, k < s.length → seatRow n q s k = false → seatsOkL n q s = false) := hide (fun k hk h => by rw [HR.out]; exact allN_false hk h)
      clear hlg hQ
      go_enter Try.func35, Try.ntmps35
      go_wp2_with fail
      refine (specQuarrelsValid_any _ _ _ _ _ hA hl).mono ?_
      rintro e w1 ⟨rfl, hB1⟩
      rw [HQ.out]
      have hszB := hB1.size
      go_wp2_with fail
      go_loopw [7] (fun i wr => ∃ k : Nat, k ≤ n ∧ i = .int .i64 k ∧ Hid (∀ i, i < k → seatRow n q s i = true) ∧ Below w.heap.size w wr) (fun i _ => n - (intOf i).toNat)
      case atStart => exact ⟨0, Nat.zero_le _, rfl, hide (fun i hi => by omega), hB1⟩
      case round =>
        obtain ⟨k, hk, rfl, HG, hb⟩ := hrel
        have hsz := hb.size
        by_cases hlt : k < n
        · have hks : k < s.length := by omega
          obtain ⟨b, off, rfl, hbl, hc1⟩ := (hB.below hb) k s[k] (List.getElem?_eq_getElem hks)
          have HP : Hid (s.getD k 0 = s[k]) := hide (by simp [hks])
          have HPE : Hid (s[k]? = some s[k]) := hide (List.getElem?_eq_getElem hks)
          generalize s[k] = p at *
          have hz : (0 : Int) ≤ k := by omega
          have hz2 : (k : Int) < s.length := by omega
          have hz3 : (k : Int) < n := by omega
          have hkq : k < q.length := by omega
          have HUE : Hid (q[k]? = some q[k]) := hide (List.getElem?_eq_getElem hkq)
          have HUD : Hid (q.getD k 0 = q[k]) := hide (by simp [hkq])
          have hu := HX.out q[k] (List.getElem_mem hkq)
          generalize q[k] = u at *
          have hu0 : 0 ≤ u := hu.1
          have hu1 : u < 64 := hu.2
          clear hu
          have hkq2 : (k : Int) < q.length := by omega
          cases hp1 : inR p 0 ((n : Int) - 1) with
          | false =>
            have H1 := hide hp1
            have H3 := hide (HNO.out k hks (by unfold seatRow; rw [HP.out, hp1]; rfl))
            clear hp1
            go_wp2_with fail
            refine (l1In_w _ _ _ _ H1 _).mono ?_
            rintro e w2 ⟨rfl, rfl⟩
            go_wp2_with fail
            go_ret
            exact ⟨by rw [H3.out]; rfl, hb⟩
          | true =>
            have H1 := hide hp1
            have HROW : Hid (seatRow n q s k = seatFine q s k) := hide (by unfold seatRow; rw [HP.out, hp1]; rfl)
            clear hp1
            go_wp2_with fail
            refine (l1In_w _ _ _ _ H1 _).mono ?_
            rintro e w2 ⟨rfl, rfl⟩
            go_wp2_with fail
            clear hc1
            go_loopw [8] (fun j wr => ∃ t : Nat, t ≤ k ∧ j = .int .i64 t ∧ Hid (∀ b, b < t → seatBad q s k b = false) ∧ Below w.heap.size w wr) (fun j _ => k - (intOf j).toNat)
            case atStart => exact ⟨0, Nat.zero_le _, rfl, hide (fun i hi => by omega), hb⟩
            case round =>
              obtain ⟨t, ht, rfl, HT, hb3⟩ := hrel
              have hsz3 := hb3.size
              by_cases htl : t < k
              · have hts : t < s.length := by omega
                have HYE : Hid (s[t]? = some s[t]) := hide (List.getElem?_eq_getElem hts)
                have HYD : Hid (s.getD t 0 = s[t]) := hide (by simp [hts])
                generalize s[t] = y at *
                have hcp := (hB.below hb3).cellOf HPE.out
                have hcy := (hB.below hb3).cellOf HYE.out
                obtain ⟨b2, off2, rfl, hbl2, hcu⟩ := (hA.below hb3) k u HUE.out
                have ht0 : (0 : Int) ≤ t := by omega
                have ht1 : (t : Int) < k := by omega
                have ht2 : (t : Int) < s.length := by omega
                have hd1 := div_range u t hu0 hu1
                have HNX : seatBad q s k t = false → Hid (∀ b, b < t + 1 → seatBad q s k b = false) := fun h => hide (fun b hb => by
                  by_cases e : b = t
                  · subst e; exact h
                  · exact HT.out b (by omega))
                cases hh : hasB u t with
                | false =>
                  have hf1 : (u / 2 ^ t % 2 == 1) = false := hh
                  have H3 := HNX (by unfold seatBad; rw [HUD.out, hh]; simp)
                  clear hh HNX
                  go_wp2_with fail
                  go_quiet (fail)
                  go_wp2_with fail
                  go_roundw
                  case rel => exact ⟨t + 1, htl, by go_num, H3, below_drewN hb3 _⟩
                  case measure => simp [intOf]; omega
                | true =>
                  have hf1 : (u / 2 ^ t % 2 == 1) = true := hh
                  cases hyp : (p == y) with
                  | false =>
                    have H3 := HNX (by unfold seatBad; rw [HP.out, HYD.out, show (y == p) = false from by rw [beq_eq_false_iff_ne] at hyp ⊢; exact fun e => hyp e.symm]; rfl)
                    clear hh HNX
                    go_wp2_with fail
                    go_quiet (fail)
                    go_wp2_with fail
                    go_roundw
                    case rel => exact ⟨t + 1, htl, by go_num, H3, below_drewN hb3 _⟩
                    case measure => simp [intOf]; omega
                  | true =>
                    have H3 := hide (HNO.out k hks (by
                      rw [HROW.out]
                      unfold seatFine
                      refine allN_false (i := t) htl ?_
                      unfold seatBad
                      rw [HP.out, HYD.out, HUD.out, hh, show (y == p) = true from by rw [beq_iff_eq] at hyp ⊢; exact hyp.symm]
                      rfl))
                    clear hh HNX
                    go_wp2_with fail
                    go_quiet (fail)
                    go_wp2_with fail
                    go_ret
                    exact ⟨by rw [H3.out]; rfl, below_drewN hb3 _⟩
              · have H3 : Hid (∀ i, i < k + 1 → seatRow n q s i = true) := hide (fun i hi => by
                  by_cases e : i = k
                  · subst e
                    rw [HROW.out]
                    unfold seatFine
                    rw [allN_iff]
                    intro b hb
                    rw [HT.out b (by omega)]
                    rfl
                  · exact HG.out i (by omega))
                go_wp2_with fail
                go_roundw
                case rel => exact ⟨k + 1, hlt, by go_num, H3, hb3⟩
                case measure => simp [intOf]; omega
        · have H3 : Hid (seatsOkL n q s = true) := hide (by rw [HR.out, allN_iff]; intro i hi; exact HG.out i (by omega))
          go_wp2_with fail
          go_ret
          exact ⟨by rw [H3.out]; rfl, hb⟩
    · have HR := hide (seats_no2 (g := n) (q := q) (s := s) (by rw [decide_eq_false (by omega)]; rfl))
      have hne : ((s.length : Int) != n) = true := by rw [bne_iff_ne]; omega
      clear hlg hQ
      go_enter Try.func35, Try.ntmps35
      go_wp2_with fail
      refine (specQuarrelsValid_any _ _ _ _ _ hA hl).mono ?_
      rintro e w1 ⟨rfl, hB1⟩
      rw [HQ.out]
      go_wp2_with fail
      go_ret
      exact ⟨by rw [HR.out]; rfl, hB1⟩
end Go.Proofs.Ytbkelmolhgofpab
