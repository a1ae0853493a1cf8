/- Guests7: contracts of SeatsOk, of the program and of the reference model.
   Conditions: lists have at most 1048576 elements.
   Guests8: contracts of ApartMost, of the program and of the reference model.
   Conditions: lists have at most 1048576 elements.
   Guests9: contracts of DishesGreedy, of the program and of the reference model.
   Conditions: lists have at most 1048576 elements.
   Guests10: contracts of CliqueMost, of the program and of the reference model.
   Conditions: lists have at most 1048576 elements. -/
import Derived.Test.YtgpcbigaeodhfaaDoorZ3
import Derived.Test.YtgpcbigaeodhfaaDoorZ2
import Derived.Test.YtgpcbigaeodhfaaDoorPush
namespace Go.Proofs.YtgpcbigaeodhfaaDoor
open Go.RowKit Go.ChangeShapes Go.WideShapes Go.ChangeAt Go.Deep

theorem seats_no1 {g : Int} {q s : List Int} (h : quarOk g q = false) : seatsOkL g q s = false := by unfold seatsOkL; rw [h]; rfl
theorem seats_no2 {g : Int} {q s : List Int} (h : (decide ((s.length : Int) = g) && rangeOk (g - 1) s) = false) : seatsOkL g q s = false := by unfold seatsOkL; rw [h]; simp
theorem seats_bad {g : Int} {q s : List Int} {a b : Nat} (ha : a < s.length) (hb : b < a) (h : seatBad q s a b = true) : seatsOkL g q s = false := by
  have : allN s.length (seatFine q s) = false := allN_false ha (by unfold seatFine; exact allN_false hb (by rw [h]; rfl))
  unfold seatsOkL
  rw [this]
  simp

set_option maxRecDepth 100000 in
set_option maxHeartbeats 2000000 in
theorem implSeatsOk_any (g : Int) (A B : Option Addr) (c d : Nat) (q s : List Int) (w : World) (hA : IntsAt w A q) (hl : q.length ≤ 1048576) (hB : IntsAt w B s) (hm : s.length ≤ 1048576) :
    Calls Tryd.prog 27 #[.int .i64 g, .slice A q.length c, .slice B s.length d] w fun e w' => e = .returned (.bool (seatsOkL g q s)) ∧ Below w.heap.size w w' := by
  cases hQ : quarOk g q with
  | false =>
    have HQ := hide hQ
    have HR := hide (seats_no1 (s := s) hQ)
    clear hQ
    go_enter Tryd.func27, Tryd.ntmps27
    go_wp2_with fail
    refine (implQuarrelsValid_any _ _ _ _ _ hA hl).mono ?_
    rintro e w1 ⟨rfl, hB1⟩
    rw [HQ.out]
    go_wp2_with fail
    go_ret
    exact ⟨by rw [HR.out]; rfl, hB1⟩
  | true =>
    have HQ := hide hQ
    have hg := quarOk_g hQ
    have h0 := hg.1
    have h1 := hg.2.1
    have HX : Hid (∀ x ∈ q, 0 ≤ x ∧ x < 64) := hide (fun x hx => ⟨(quarOk_at hQ hx).1, (quarOk_at hQ hx).2.2⟩)
    obtain ⟨n, hn⟩ : ∃ n : Nat, n = q.length := ⟨_, rfl⟩
    obtain rfl : g = n := by omega
    have hnq1 : n ≤ q.length := by omega
    have hnq2 : q.length ≤ n := by omega
    clear hn hg
    cases hr : (decide ((s.length : Int) = n) && rangeOk (n - 1) s) with
    | false =>
      have HS := hide hr
      have HR := hide (seats_no2 (q := q) hr)
      clear hr hQ
      go_enter Tryd.func27, Tryd.ntmps27
      go_wp2_with fail
      refine (implQuarrelsValid_any _ _ _ _ _ hA hl).mono ?_
      rintro e w1 ⟨rfl, hB1⟩
      rw [HQ.out]
      go_wp2_with fail
      refine (allInRange_any _ _ _ _ _ _ (hB.below hB1) hm).mono ?_
      rintro e w2 ⟨rfl, hB2⟩
      rw [HS.out]
      have hb2 := next hB1 hB2
      go_wp2_with fail
      go_ret
      exact ⟨by rw [HR.out]; rfl, hb2⟩
    | true =>
      have HS := hide hr
      have hr2 := hr
      rw [Bool.and_eq_true, decide_eq_true_eq] at hr2
      have hs1 : s.length ≤ n := by omega
      have hs2 : n ≤ s.length := by omega
      have HR : Hid (seatsOkL n q s = allN s.length (seatFine q s)) := hide (by unfold seatsOkL; rw [hQ, hr]; rfl)
      clear hr hr2 hQ
      go_enter Tryd.func27, Tryd.ntmps27
      go_wp2_with fail
      refine (implQuarrelsValid_any _ _ _ _ _ hA hl).mono ?_
      rintro e w1 ⟨rfl, hB1⟩
      rw [HQ.out]
      go_wp2_with fail
      refine (allInRange_any _ _ _ _ _ _ (hB.below hB1) hm).mono ?_
      rintro e w2 ⟨rfl, hB2⟩
      rw [HS.out]
      have hb2 := next hB1 hB2
      have hszB := hb2.size
      go_wp2_with fail
      go_loopw [24] (fun i wr => ∃ k : Nat, k ≤ s.length ∧ i = .int .i64 k ∧ Hid (∀ i, i < k → seatFine q s i = true) ∧ Below w.heap.size w wr) (fun i _ => s.length - (intOf i).toNat)
      case atStart => exact ⟨0, Nat.zero_le _, rfl, hide (fun i hi => by omega), hb2⟩
      case round =>
        obtain ⟨k, hk, rfl, HG, hb⟩ := hrel
        have hsz := hb.size
        by_cases hlt : k < s.length
        · obtain ⟨b, off, rfl, hbl, hc1⟩ := (hB.below hb) k s[k] (List.getElem?_eq_getElem hlt)
          have HP : Hid (s.getD k 0 = s[k]) := hide (by simp [hlt])
          generalize s[k] = p at *
          have hz : (0 : Int) ≤ k := by omega
          have hz2 : (k : Int) < s.length := by omega
          have hkq : k < q.length := by omega
          have HUE : Hid (q[k]? = some q[k]) := hide (List.getElem?_eq_getElem hkq)
          have HUD : Hid (q.getD k 0 = q[k]) := hide (by simp [hkq])
          have hu := HX.out q[k] (List.getElem_mem hkq)
          generalize q[k] = u at *
          have hu0 : 0 ≤ u := hu.1
          have hu1 : u < 64 := hu.2
          clear hu
          have hkq2 : (k : Int) < q.length := by omega
          go_wp2_with fail
          clear hc1
          go_loopw [30] (fun j wr => ∃ t : Nat, t ≤ k ∧ j = .int .i64 t ∧ Hid (∀ b, b < t → seatBad q s k b = false) ∧ Below w.heap.size w wr) (fun j _ => k - (intOf j).toNat)
          case atStart => exact ⟨0, Nat.zero_le _, rfl, hide (fun i hi => by omega), hb⟩
          case round =>
            obtain ⟨t, ht, rfl, HT, hb3⟩ := hrel
            have hsz3 := hb3.size
            by_cases htl : t < k
            · have hts : t < s.length := by omega
              have HYE : Hid (s[t]? = some s[t]) := hide (List.getElem?_eq_getElem hts)
              have HYD : Hid (s.getD t 0 = s[t]) := hide (by simp [hts])
              generalize s[t] = y at *
              have hcy := (hB.below hb3).cellOf HYE.out
              obtain ⟨b2, off2, rfl, hbl2, hcu⟩ := (hA.below hb3) k u HUE.out
              have ht0 : (0 : Int) ≤ t := by omega
              have ht1 : (t : Int) < k := by omega
              have ht2 : (t : Int) < s.length := by omega
              have ht3 : (t : Int) < 6 := by omega
              have HNX : seatBad q s k t = false → Hid (∀ b, b < t + 1 → seatBad q s k b = false) := fun h => hide (fun b hb => by
                by_cases e : b = t
                · subst e; exact h
                · exact HT.out b (by omega))
              cases hyp : (y == p) with
              | false =>
                have H3 := HNX (by unfold seatBad; rw [HP.out, HYD.out, hyp]; rfl)
                clear HNX
                go_wp2_with fail
                go_roundw
                case rel => exact ⟨t + 1, htl, by go_num, H3, hb3⟩
                case measure => simp [intOf]; omega
              | true =>
                cases hh : hasB u t with
                | false =>
                  have HH := hide hh
                  have H3 := HNX (by unfold seatBad; rw [HUD.out, hh]; simp)
                  clear hh HNX
                  go_wp2_with fail
                  refine (inSet_w _ _ _ hu0 hu1 ht0 ht3 false (by rw [Int.toNat_natCast]; exact HH)).mono ?_
                  rintro e w3 ⟨rfl, rfl⟩
                  go_wp2_with fail
                  go_roundw
                  case rel => exact ⟨t + 1, htl, by go_num, H3, hb3⟩
                  case measure => simp [intOf]; omega
                | true =>
                  have HH := hide hh
                  have H3 : Hid (seatsOkL n q s = false) := hide (seats_bad hlt htl (by unfold seatBad; rw [HP.out, HYD.out, HUD.out, hyp, hh]; rfl))
                  clear hh HNX
                  go_wp2_with fail
                  refine (inSet_w _ _ _ hu0 hu1 ht0 ht3 true (by rw [Int.toNat_natCast]; exact HH)).mono ?_
                  rintro e w3 ⟨rfl, rfl⟩
                  go_wp2_with fail
                  go_ret
                  exact ⟨by rw [H3.out]; rfl, hb3⟩
            · have H3 : Hid (∀ i, i < k + 1 → seatFine q s i = true) := hide (fun i hi => by
                by_cases e : i = k
                · subst e
                  unfold seatFine
                  rw [allN_iff]
                  intro b hb
                  rw [HT.out b (by omega)]
                  rfl
                · exact HG.out i (by omega))
              go_wp2_with fail
              go_roundw
              case rel => exact ⟨k + 1, hlt, by go_num, H3, hb3⟩
              case measure => simp [intOf]; omega
        · have H3 : Hid (seatsOkL n q s = true) := hide (by rw [HR.out, allN_iff]; intro i hi; exact HG.out i (by omega))
          go_wp2_with fail
          go_ret
          exact ⟨by rw [H3.out]; rfl, hb⟩

set_option maxRecDepth 100000 in
set_option maxHeartbeats 2000000 in
theorem specSeatsOk_any (g : Int) (A B : Option Addr) (c d : Nat) (q s : List Int) (w : World) (hA : IntsAt w A q) (hl : q.length ≤ 1048576) (hB : IntsAt w B s) (_hm : s.length ≤ 1048576) :
    Calls Tryd.prog 28 #[.int .i64 g, .slice A q.length c, .slice B s.length d] w fun e w' => e = .returned (.bool (seatsOkL g q s)) ∧ Below w.heap.size w w' := by
  cases hQ : quarOk g q with
  | false =>
    have HQ := hide hQ
    have HR := hide (seats_no1 (s := s) hQ)
    clear hQ
    go_enter Tryd.func28, Tryd.ntmps28
    go_wp2_with fail
    refine (specQuarrelsValid_any _ _ _ _ _ hA hl).mono ?_
    rintro e w1 ⟨rfl, hB1⟩
    rw [HQ.out]
    go_wp2_with fail
    go_ret
    exact ⟨by rw [HR.out]; rfl, hB1⟩
  | true =>
    have HQ := hide hQ
    have hg := quarOk_g hQ
    have h0 := hg.1
    have h1 := hg.2.1
    have HX : Hid (∀ x ∈ q, 0 ≤ x ∧ x < 64) := hide (fun x hx => ⟨(quarOk_at hQ hx).1, (quarOk_at hQ hx).2.2⟩)
    obtain ⟨n, hn⟩ : ∃ n : Nat, n = q.length := ⟨_, rfl⟩
    obtain rfl : g = n := by omega
    have hnq1 : n ≤ q.length := by omega
    have hnq2 : q.length ≤ n := by omega
    clear hn hg
    by_cases hlg : s.length = n
    · have HR := hide (seatsOkL_rows hQ (s := s) (by omega))
      have hs1 : s.length ≤ n := by omega
      have hs2 : n ≤ s.length := by omega
      have hne : ((s.length : Int) != n) = false := by simp [hlg]
      have HNO : Hid (∀ k, k < s.length → seatRow n q s k = false → seatsOkL n q s = false) := hide (fun k hk h => by rw [HR.out]; exact allN_false hk h)
      clear hlg hQ
      go_enter Tryd.func28, Tryd.ntmps28
      go_wp2_with fail
      refine (specQuarrelsValid_any _ _ _ _ _ hA hl).mono ?_
      rintro e w1 ⟨rfl, hB1⟩
      rw [HQ.out]
      have hszB := hB1.size
      go_wp2_with fail
      go_loopw [7] (fun i wr => ∃ k : Nat, k ≤ n ∧ i = .int .i64 k ∧ Hid (∀ i, i < k → seatRow n q s i = true) ∧ Below w.heap.size w wr) (fun i _ => n - (intOf i).toNat)
      case atStart => exact ⟨0, Nat.zero_le _, rfl, hide (fun i hi => by omega), hB1⟩
      case round =>
        obtain ⟨k, hk, rfl, HG, hb⟩ := hrel
        have hsz := hb.size
        by_cases hlt : k < n
        · have hks : k < s.length := by omega
          obtain ⟨b, off, rfl, hbl, hc1⟩ := (hB.below hb) k s[k] (List.getElem?_eq_getElem hks)
          have HP : Hid (s.getD k 0 = s[k]) := hide (by simp [hks])
          have HPE : Hid (s[k]? = some s[k]) := hide (List.getElem?_eq_getElem hks)
          generalize s[k] = p at *
          have hz : (0 : Int) ≤ k := by omega
          have hz2 : (k : Int) < s.length := by omega
          have hz3 : (k : Int) < n := by omega
          have hkq : k < q.length := by omega
          have HUE : Hid (q[k]? = some q[k]) := hide (List.getElem?_eq_getElem hkq)
          have HUD : Hid (q.getD k 0 = q[k]) := hide (by simp [hkq])
          have hu := HX.out q[k] (List.getElem_mem hkq)
          generalize q[k] = u at *
          have hu0 : 0 ≤ u := hu.1
          have hu1 : u < 64 := hu.2
          clear hu
          have hkq2 : (k : Int) < q.length := by omega
          cases hp1 : inR p 0 ((n : Int) - 1) with
          | false =>
            have H1 := hide hp1
            have H3 := hide (HNO.out k hks (by unfold seatRow; rw [HP.out, hp1]; rfl))
            clear hp1
            go_wp2_with fail
            refine (l1In_w _ _ _ _ H1 _).mono ?_
            rintro e w2 ⟨rfl, rfl⟩
            go_wp2_with fail
            go_ret
            exact ⟨by rw [H3.out]; rfl, hb⟩
          | true =>
            have H1 := hide hp1
            have HROW : Hid (seatRow n q s k = seatFine q s k) := hide (by unfold seatRow; rw [HP.out, hp1]; rfl)
            clear hp1
            go_wp2_with fail
            refine (l1In_w _ _ _ _ H1 _).mono ?_
            rintro e w2 ⟨rfl, rfl⟩
            go_wp2_with fail
            clear hc1
            go_loopw [8] (fun j wr => ∃ t : Nat, t ≤ k ∧ j = .int .i64 t ∧ Hid (∀ b, b < t → seatBad q s k b = false) ∧ Below w.heap.size w wr) (fun j _ => k - (intOf j).toNat)
            case atStart => exact ⟨0, Nat.zero_le _, rfl, hide (fun i hi => by omega), hb⟩
            case round =>
              obtain ⟨t, ht, rfl, HT, hb3⟩ := hrel
              have hsz3 := hb3.size
              by_cases htl : t < k
              · have hts : t < s.length := by omega
                have HYE : Hid (s[t]? = some s[t]) := hide (List.getElem?_eq_getElem hts)
                have HYD : Hid (s.getD t 0 = s[t]) := hide (by simp [hts])
                generalize s[t] = y at *
                have hcp := (hB.below hb3).cellOf HPE.out
                have hcy := (hB.below hb3).cellOf HYE.out
                obtain ⟨b2, off2, rfl, hbl2, hcu⟩ := (hA.below hb3) k u HUE.out
                have ht0 : (0 : Int) ≤ t := by omega
                have ht1 : (t : Int) < k := by omega
                have ht2 : (t : Int) < s.length := by omega
                have hd1 := div_range u t hu0 hu1
                have HNX : seatBad q s k t = false → Hid (∀ b, b < t + 1 → seatBad q s k b = false) := fun h => hide (fun b hb => by
                  by_cases e : b = t
                  · subst e; exact h
                  · exact HT.out b (by omega))
                cases hh : hasB u t with
                | false =>
                  have hf1 : (u / 2 ^ t % 2 == 1) = false := hh
                  have H3 := HNX (by unfold seatBad; rw [HUD.out, hh]; simp)
                  clear hh HNX
                  go_wp2_with fail
                  go_quiet (fail)
                  go_wp2_with fail
                  go_roundw
                  case rel => exact ⟨t + 1, htl, by go_num, H3, below_drewN hb3 _⟩
                  case measure => simp [intOf]; omega
                | true =>
                  have hf1 : (u / 2 ^ t % 2 == 1) = true := hh
                  cases hyp : (p == y) with
                  | false =>
                    have H3 := HNX (by unfold seatBad; rw [HP.out, HYD.out, show (y == p) = false from by rw [beq_eq_false_iff_ne] at hyp ⊢; exact fun e => hyp e.symm]; rfl)
                    clear hh HNX
                    go_wp2_with fail
                    go_quiet (fail)
                    go_wp2_with fail
                    go_roundw
                    case rel => exact ⟨t + 1, htl, by go_num, H3, below_drewN hb3 _⟩
                    case measure => simp [intOf]; omega
                  | true =>
                    have H3 := hide (HNO.out k hks (by
                      rw [HROW.out]
                      unfold seatFine
                      refine allN_false (i := t) htl ?_
                      unfold seatBad
                      rw [HP.out, HYD.out, HUD.out, hh, show (y == p) = true from by rw [beq_iff_eq] at hyp ⊢; exact hyp.symm]
                      rfl))
                    clear hh HNX
                    go_wp2_with fail
                    go_quiet (fail)
                    go_wp2_with fail
                    go_ret
                    exact ⟨by rw [H3.out]; rfl, below_drewN hb3 _⟩
              · have H3 : Hid (∀ i, i < k + 1 → seatRow n q s i = true) := hide (fun i hi => by
                  by_cases e : i = k
                  · subst e
                    rw [HROW.out]
                    unfold seatFine
                    rw [allN_iff]
                    intro b hb
                    rw [HT.out b (by omega)]
                    rfl
                  · exact HG.out i (by omega))
                go_wp2_with fail
                go_roundw
                case rel => exact ⟨k + 1, hlt, by go_num, H3, hb3⟩
                case measure => simp [intOf]; omega
        · have H3 : Hid (seatsOkL n q s = true) := hide (by rw [HR.out, allN_iff]; intro i hi; exact HG.out i (by omega))
          go_wp2_with fail
          go_ret
          exact ⟨by rw [H3.out]; rfl, hb⟩
    · have HR := hide (seats_no2 (g := n) (q := q) (s := s) (by rw [decide_eq_false (by omega)]; rfl))
      have hne : ((s.length : Int) != n) = true := by rw [bne_iff_ne]; omega
      clear hlg hQ
      go_enter Tryd.func28, Tryd.ntmps28
      go_wp2_with fail
      refine (specQuarrelsValid_any _ _ _ _ _ hA hl).mono ?_
      rintro e w1 ⟨rfl, hB1⟩
      rw [HQ.out]
      go_wp2_with fail
      go_ret
      exact ⟨by rw [HR.out]; rfl, hB1⟩
end Go.Proofs.YtgpcbigaeodhfaaDoor

namespace Go.Proofs.YtgpcbigaeodhfaaDoor
open Go.RowKit Go.ChangeShapes Go.WideShapes Go.ChangeAt Go.Deep

theorem most_step {ms : List Int} {k : Nat} {s : Int} (h : mostGo ms k = s) (ha : apartS k ms = true) : mostGo ms (k + 1) = if s < sz k then sz k else s := by
  unfold mostGo
  rw [if_pos ha, h]
  split <;> omega
theorem most_skip {ms : List Int} {k : Nat} {s : Int} (h : mostGo ms k = s) (ha : apartS k ms = false) : mostGo ms (k + 1) = s := by
  unfold mostGo
  rw [if_neg (by rw [ha]; decide), h]

set_option maxRecDepth 100000 in
set_option maxHeartbeats 2000000 in
theorem mostApart_any (A : Option Addr) (c : Nat) (ms : List Int) (w : World) (hA : IntsAt w A ms) (hl : ms.length ≤ 6) (HX : Hid (∀ x ∈ ms, 0 ≤ x ∧ x < 64)) :
    Calls Tryd.prog 74 #[.slice A ms.length c] w fun e w' => e = .returned (.int .i64 (mostGo ms (2 ^ ms.length))) ∧ w = w' := by
  have hp := pow_range6 ms.length hl
  have HN : Hid (((2 ^ ms.length : Nat) : Int) = (2 : Int) ^ ms.length) := hide (by simp)
  go_enter Tryd.func74, Tryd.ntmps74
  go_wp2_with fail
  go_loopw [3, 8] (fun sv i wr => ∃ (k : Nat) (s : Int), (k : Int) ≤ 2 ^ ms.length ∧ i = .int .i64 k ∧ sv = .int .i64 s ∧ 0 ≤ s ∧ s ≤ 64 ∧ Hid (mostGo ms k = s) ∧ w = wr) (fun _ i _ => 64 - (intOf i).toNat)
  case atStart => exact ⟨0, 0, by omega, rfl, rfl, by omega, by omega, hide rfl, rfl⟩
  case round =>
    obtain ⟨k, s, hk, rfl, rfl, hs0, hs1, HG, rfl⟩ := hrel
    by_cases hlt : (k : Int) < 2 ^ ms.length
    · have hk0 : (0 : Int) ≤ k := by omega
      have hk1 : (k : Int) < 64 := by omega
      cases ha : apartS k ms with
      | false =>
        have HA := hide ha
        have H3 := hide (most_skip HG.out ha)
        clear ha
        go_wp2_with fail
        refine (isApart_any _ _ _ _ _ hA hl HX hk0 hk1).mono ?_
        rintro e w1 ⟨rfl, rfl⟩
        rw [HA.out]
        go_wp2_with fail
        go_roundw
        case rel => exact ⟨k + 1, s, by omega, by go_num, rfl, hs0, hs1, H3, trivial⟩
        case measure => simp [intOf]; omega
      | true =>
        have HA := hide ha
        have H3 := hide (most_step HG.out ha)
        have hz := sz_bound k
        have HC := hide (fun W => sizeOf_any (k : Int) W hk0 (by omega))
        clear ha
        generalize sz (k : Int) = z at *
        by_cases hsz : s < z
        · have H4 : Hid (mostGo ms (k + 1) = z) := hide (by rw [H3.out, if_pos hsz])
          go_wp2_with fail
          refine (isApart_any _ _ _ _ _ hA hl HX hk0 hk1).mono ?_
          rintro e w1 ⟨rfl, rfl⟩
          rw [HA.out]
          go_wp2_with fail
          refine (HC.out _).mono ?_
          rintro e w1 ⟨rfl, rfl⟩
          go_wp2_with fail
          go_roundw
          case rel => exact ⟨k + 1, z, by omega, by go_num, rfl, hz.1, hz.2, H4, trivial⟩
          case measure => simp [intOf]; omega
        · have H4 : Hid (mostGo ms (k + 1) = s) := hide (by rw [H3.out, if_neg hsz])
          go_wp2_with fail
          refine (isApart_any _ _ _ _ _ hA hl HX hk0 hk1).mono ?_
          rintro e w1 ⟨rfl, rfl⟩
          rw [HA.out]
          go_wp2_with fail
          refine (HC.out _).mono ?_
          rintro e w1 ⟨rfl, rfl⟩
          go_wp2_with fail
          go_roundw
          case rel => exact ⟨k + 1, s, by omega, by go_num, rfl, hs0, hs1, H4, trivial⟩
          case measure => simp [intOf]; omega
    · have H3 : Hid (mostGo ms (2 ^ ms.length) = s) := hide (by rw [← HG.out, show k = 2 ^ ms.length from by have := HN.out; omega])
      go_wp2_with fail
      go_ret
      exact ⟨by rw [H3.out]; rfl, rfl⟩

theorem am_no {g : Int} {m : List Int} (h : menuOk g m = false) : apartMostL g m = -1 := by unfold apartMostL; rw [h]; rfl

set_option maxHeartbeats 1000000 in
theorem implApartMost_any (g : Int) (A : Option Addr) (c : Nat) (m : List Int) (w : World) (hA : IntsAt w A m) (hl : m.length ≤ 1048576) :
    Calls Tryd.prog 25 #[.int .i64 g, .slice A m.length c] w fun e w' => e = .returned (.int .i64 (apartMostL g m)) ∧ Below w.heap.size w w' := by
  cases hM : menuOk g m with
  | false =>
    have HM := hide hM
    have HR := hide (am_no hM)
    clear hM
    go_enter Tryd.func25, Tryd.ntmps25
    go_wp2_with fail
    refine (implMenuValid_any _ _ _ _ _ hA hl).mono ?_
    rintro e w1 ⟨rfl, hB1⟩
    rw [HM.out]
    go_wp2_with fail
    go_ret
    exact ⟨by rw [HR.out]; rfl, hB1⟩
  | true =>
    have HM := hide hM
    have hg0 := (menuOk_g hM).1
    have hg1 := (menuOk_g hM).2
    have h6 := menuOk_len hM
    have HX : Hid (∀ x ∈ m, 0 ≤ x ∧ x < 64) := hide (fun x hx => ⟨(menuOk_at hM hx).1, (menuOk_at hM hx).2.2⟩)
    have HSM : Hid (∀ x ∈ sharersL g m, 0 ≤ x ∧ x < 64) := hide (fun x hx => sharersL_mem hg1 HX.out hx)
    have hsl : (sharersL g m).length ≤ 6 := by rw [sharersL_len]; omega
    have HR : Hid (apartMostL g m = mostGo (sharersL g m) (2 ^ (sharersL g m).length)) := hide (by unfold apartMostL; rw [if_pos hM, sharersL_len])
    clear hM
    go_enter Tryd.func25, Tryd.ntmps25
    go_wp2_with fail
    refine (implMenuValid_any _ _ _ _ _ hA hl).mono ?_
    rintro e w1 ⟨rfl, hB1⟩
    rw [HM.out]
    go_wp2_with fail
    refine (sharersOf_any _ _ _ _ _ (hA.below hB1) h6 HX hg0 hg1).mono ?_
    rintro e w4 ⟨v, rfl, hSl, hB4⟩
    obtain ⟨A4, c4, rfl, hI4, -⟩ := hSl.form
    have hb4 := next hB1 hB4
    clear hSl
    go_wp2_with fail
    refine (mostApart_any _ _ _ _ hI4 hsl HSM).mono ?_
    rintro e w5 ⟨rfl, rfl⟩
    go_wp2_with fail
    go_ret
    exact ⟨by rw [HR.out]; rfl, hb4⟩

end Go.Proofs.YtgpcbigaeodhfaaDoor

namespace Go.Proofs.YtgpcbigaeodhfaaDoor
open Go.RowKit Go.ChangeShapes Go.WideShapes Go.ChangeAt Go.Deep

theorem or_more_all : ∀ x y : Fin 64, 0 < sz (dropI y.val x.val) → x.val < (orI x.val y.val).toNat := by decide +kernel
theorem or_more {x y : Int} (h0 : 0 ≤ x) (h1 : x < 64) (k0 : 0 ≤ y) (k1 : y < 64) (h : 0 < sz (dropI y x)) : x < orI x y := by
  have := or_more_all ⟨x.toNat, by omega⟩ ⟨y.toNat, by omega⟩ (by simpa only [Int.toNat_of_nonneg h0, Int.toNat_of_nonneg k0] using h)
  simp only [Int.toNat_of_nonneg h0, Int.toNat_of_nonneg k0] at this
  omega

theorem l1Meet64_any (a b : Int) (w : World) (h0 : 0 ≤ a) (h1 : a < 64) (h2 : 0 ≤ b) (h3 : b < 64) :
    Calls Tryd.prog 82 #[.int .i64 a, .int .i64 b] w fun e w' => e = .returned (.int .i64 (meetI a b)) ∧ w' = w := by
  have ho := orI_lt (a := a) (b := b) (by omega) (by omega)
  go_enter Tryd.func82, Tryd.ntmps82
  go_wp2_with fail
  refine (l1Join_any _ _ _ h0 h1 h2 h3).mono ?_
  rintro e w' ⟨rfl, rfl⟩
  go_wp2_with fail
  go_ret
  exact ⟨rfl, rfl⟩

theorem l6Count_is (s : Int) (w : World) (h0 : 0 ≤ s) (h1 : s ≤ 9223372036854775807) :
    Calls Tryd.prog 84 #[.int .i64 s] w fun e w' => e = .returned (.int .i64 (sz s)) ∧ w' = w := (l6Count_any s w h0 h1).mono fun _ _ h => ⟨h.1, h.2.symm⟩

theorem greedy_no {g : Int} {m : List Int} (h : menuOk g m = false) : greedyL g m = [] := by unfold greedyL; rw [h]; rfl
/-- What is known of a round: how many rounds may follow, and where they lead. -/
theorem greedy_step {m : List Int} {f : Nat} {fed : Int} (hX : ∀ x ∈ m, 0 ≤ x ∧ x < 64) (h0 : 0 ≤ fed) (h1 : fed < 64) (hf : 7 ≤ (f : Int) + sz fed) :
    (bestL m fed < 0 ∧ greedyGo m f fed = []) ∨ ∃ (j f' : Nat) (e : Int), f = f' + 1 ∧ bestL m fed = j ∧ m[j]? = some e ∧ greedyGo m f fed = (j : Int) :: greedyGo m f' (orI fed e) ∧ 7 ≤ (f' : Int) + sz (orI fed e) ∧ fed < orI fed e := by
  have hz := sz_range h0 h1
  obtain ⟨f', rfl⟩ : ∃ f', f = f' + 1 := ⟨f - 1, by omega⟩
  rcases bestL_at m fed with h | ⟨j, e, he, hl, hj⟩
  · refine .inl ⟨by omega, ?_⟩
    unfold greedyGo
    rw [if_pos (by omega)]
  · have hx := hX e (List.mem_of_getElem? he)
    have hs := sz_or h0 h1 hx.1 hx.2
    refine .inr ⟨j, f', e, rfl, hj, he, ?_, by omega, or_more h0 h1 hx.1 hx.2 hl⟩
    rw [greedyGo, if_neg (by omega), hj, Int.toNat_natCast, getD_at he]

end Go.Proofs.YtgpcbigaeodhfaaDoor

namespace Go.Proofs.YtgpcbigaeodhfaaDoor
open Go.RowKit Go.ChangeShapes Go.WideShapes Go.ChangeAt Go.Deep

theorem cq_no {g : Int} {q : List Int} (h : quarOk g q = false) : cliqueMostL g q = -1 := by unfold cliqueMostL; rw [h]; rfl
theorem allN_succ (n : Nat) (f : Nat → Bool) : allN (n + 1) f = (allN n f && f n) := by unfold allN; rw [List.range_succ, List.all_append]; simp
theorem bit_zero (x : Int) (k : Nat) : (x / 2 ^ k % 2 == 0) = !hasB x k := by
  unfold hasB
  rcases Int.emod_two_eq (x / 2 ^ k) with h | h <;> rw [h] <;> rfl
theorem allGuests_is (g : Int) (w : World) (h0 : 0 ≤ g) (h1 : g ≤ 6) :
    Calls Tryd.prog 79 #[.int .i64 g] w fun e w' => e = .returned (.int .i64 (full g)) ∧ w' = w := (allGuests_any g w h0 h1).mono fun _ _ h => ⟨h.1, h.2.symm⟩

set_option maxRecDepth 100000 in
set_option maxHeartbeats 2000000 in
theorem implCliqueMost_any (g : Int) (A : Option Addr) (c : Nat) (q : List Int) (w : World) (hA : IntsAt w A q) (hl : q.length ≤ 1048576) :
    Calls Tryd.prog 31 #[.int .i64 g, .slice A q.length c] w fun e w' => e = .returned (.int .i64 (cliqueMostL g q)) ∧ Below w.heap.size w w' := by
  cases hQ : quarOk g q with
  | false =>
    have HQ := hide hQ
    have HR := hide (cq_no hQ)
    clear hQ
    go_enter Tryd.func31, Tryd.ntmps31
    go_wp2_with fail
    refine (implQuarrelsValid_any _ _ _ _ _ hA hl).mono ?_
    rintro e w1 ⟨rfl, hB1⟩
    rw [HQ.out]
    go_wp2_with fail
    go_ret
    exact ⟨by rw [HR.out]; rfl, hB1⟩
  | true =>
    have HQ := hide hQ
    have hg := quarOk_g hQ
    have h0 := hg.1
    have h1 := hg.2.1
    have HX : Hid (∀ x ∈ q, 0 ≤ x ∧ x < 64) := hide (fun x hx => ⟨(quarOk_at hQ hx).1, (quarOk_at hQ hx).2.2⟩)
    obtain ⟨n, hn⟩ : ∃ n : Nat, n = q.length := ⟨_, rfl⟩
    obtain rfl : g = n := by omega
    have hnq1 : n ≤ q.length := by omega
    have hnq2 : q.length ≤ n := by omega
    have hmk := make_ints n (by omega)
    have HR : Hid (cliqueMostL n q = mostGo (peaceL n q) (2 ^ n)) := hide (by unfold cliqueMostL; rw [if_pos hQ, Int.toNat_natCast])
    have HZ0 := hide (fun (W : World) (hW : w.heap.size ≤ W.heap.size) => zeros_tabG W (lo := w.heap.size) n hW (by omega))
    have HPM : Hid (∀ x ∈ peaceL n q, 0 ≤ x ∧ x < 64) := hide (fun x hx => by
      obtain ⟨i, hi⟩ := List.getElem?_of_mem hx
      have hil := (List.getElem?_eq_some_iff.1 hi).1
      unfold peaceL at hil hi
      rw [tab_len] at hil
      rw [tab_at hil] at hi
      injection hi with hi
      rw [← hi]
      have hu := quarOk_getD hQ i
      have hf := full_range h0 h1
      have hp := pow_range i (by omega)
      have d1 := drop_range hf.1 hf.2 hu.1 hu.2.2
      have d2 := drop_range (y := 2 ^ i) d1.1 (by omega) (by omega) hp.2
      omega)
    have HPE : Hid (peaceL n q = tab n (fun i => dropI (dropI (full n) (q.getD i 0)) (2 ^ i))) := hide rfl
    have hF := full_range h0 h1
    clear hn hg hQ
    go_enter Tryd.func31, Tryd.ntmps31
    go_wp2_with fail
    refine (implQuarrelsValid_any _ _ _ _ _ hA hl).mono ?_
    rintro e w1 ⟨rfl, hB1⟩
    rw [HQ.out]
    have hszB := hB1.size
    go_wp2_with fail
    clear hmk
    have HS0 := hide (HZ0.out w1 hszB)
    go_loopw [16] (fun i wr => ∃ (k : Nat), k ≤ n ∧ i = .int .i64 k ∧ IntSl wr w.heap.size (.slice (some ⟨w1.heap.size, 0, none⟩) n n) (tab n (fun j => if j < k then dropI (dropI (full n) (q.getD j 0)) (2 ^ j) else 0)) ∧ w1.heap.size < wr.heap.size ∧ Below w.heap.size w wr) (fun i _ => n - (intOf i).toNat)
    case atStart => exact ⟨0, Nat.zero_le _, rfl, by rw [show tab n (fun j => if j < 0 then dropI (dropI (full n) (q.getD j 0)) (2 ^ j) else 0) = tab n (fun _ => 0) from tab_congr (fun j _ => by simp)]; exact HS0.out, by simp, by go_grown⟩
    case round =>
      clear HS0
      obtain ⟨k, hk, rfl, hS, hlt0, hb⟩ := hrel
      have hsz := hb.size
      by_cases hlt : k < n
      · have hkq : k < q.length := by omega
        obtain ⟨b, off, rfl, hbl, hc1⟩ := (hA.below hb) k q[k] (List.getElem?_eq_getElem hkq)
        have HUD : Hid (q.getD k 0 = q[k]) := hide (by simp [hkq])
        have hu := HX.out q[k] (List.getElem_mem hkq)
        generalize q[k] = u at *
        have hz : (0 : Int) ≤ k := by omega
        have hz2 : (k : Int) < n := by omega
        have hz3 : (k : Int) < q.length := by omega
        have hpw := pow_range k (by omega)
        have d1 := drop_range hF.1 hF.2 hu.1 hu.2
        have d2 := drop_range (y := 2 ^ k) d1.1 (by omega) (by omega) hpw.2
        have hw1 : IntKind.i64.wrap (2 ^ k) = 2 ^ k := IntWalk.i64_in _ (by omega)
        have hw2 : bits .andNot .i64 (full n) u = dropI (full n) u := andNot_all' hF.1 hF.2 hu.1 hu.2
        have hw3 : bits .andNot .i64 (dropI (full n) u) (2 ^ k) = dropI (dropI (full n) u) (2 ^ k) := andNot_all' d1.1 (by omega) (by omega) hpw.2
        have HC := hide (fun W => allGuests_is (n : Int) W h0 h1)
        have hcell := hS.cellAt (tab_at (f := fun j => if j < k then dropI (dropI (full n) (q.getD j 0)) (2 ^ j) else 0) hlt)
        have hfz := hS.frozenAt k
        have HN : Hid (IntSl (wr.setCell ⟨w1.heap.size, k, none⟩ (.int .i64 (dropI (dropI (full n) u) (2 ^ k)))) w.heap.size (.slice (some ⟨w1.heap.size, 0, none⟩) n n) (tab n (fun j => if j < k + 1 then dropI (dropI (full n) (q.getD j 0)) (2 ^ j) else 0))) := hide (by
          have := IntSl.store hS k (dropI (dropI (full n) u) (2 ^ k))
          rw [tab_set] at this
          rw [show tab n (fun j => if j < k + 1 then dropI (dropI (full n) (q.getD j 0)) (2 ^ j) else 0) = tab n (fun i => if i = k then dropI (dropI (full n) u) (2 ^ k) else if i < k then dropI (dropI (full n) (q.getD i 0)) (2 ^ i) else 0) from tab_congr (fun i _ => by
            by_cases e : i = k
            · subst e; rw [if_pos (by omega), if_pos rfl, HUD.out]
            · rw [if_neg e]
              by_cases e2 : i < k
              · rw [if_pos e2, if_pos (by omega)]
              · rw [if_neg e2, if_neg (by omega)])]
          exact this)
        have HB5 := hide (hb.grown (IntSl.grownSet hS k (dropI (dropI (full n) u) (2 ^ k))) hsz (fun k hk => by injection hk with hk; omega))
        clear hS hu
        go_wp2_with fail
        refine still_tail_drew 10 (by kernel_rfl) (by kernel_rfl) ?_
        simp only [List.take_succ_cons, List.take_zero, List.drop_succ_cons, List.drop_zero]
        repeat still_step
        still_call (HC.out _)
        repeat still_step
        refine wpStill_nil ?_
        go_wp2_with fail
        go_roundw
        case rel => exact ⟨k + 1, hlt, by go_num, IntSl.drew HN.out, by simp; exact hlt0, HB5.out.drew⟩
        case measure => simp [intOf]; omega
      · have HN : Hid (IntSl wr w.heap.size (.slice (some ⟨w1.heap.size, 0, none⟩) n n) (peaceL n q)) := hide (by
          rw [HPE.out, show tab n (fun i => dropI (dropI (full n) (q.getD i 0)) (2 ^ i)) = tab n (fun j => if j < k then dropI (dropI (full n) (q.getD j 0)) (2 ^ j) else 0) from tab_congr (fun i hi => by rw [if_pos (by omega)])]
          exact hS)
        have hpl : (peaceL n q).length = n := by rw [HPE.out, tab_len]
        have hG := mostApart_any (some ⟨w1.heap.size, 0, none⟩) n (peaceL n q) wr HN.out.ints (by omega) HPM.out
        rw [hpl] at hG
        clear hS hpl
        go_wp2_with fail
        refine hG.mono ?_
        rintro e w5 ⟨rfl, rfl⟩
        go_wp2_with fail
        go_ret
        exact ⟨by rw [HR.out]; rfl, hb⟩

set_option maxRecDepth 100000 in
set_option maxHeartbeats 2000000 in
theorem specCliqueMost_any (g : Int) (A : Option Addr) (c : Nat) (q : List Int) (w : World) (hA : IntsAt w A q) (hl : q.length ≤ 1048576) :
    Calls Tryd.prog 42 #[.int .i64 g, .slice A q.length c] w fun e w' => e = .returned (.int .i64 (cliqueMostL g q)) ∧ Below w.heap.size w w' := by
  cases hQ : quarOk g q with
  | false =>
    have HQ := hide hQ
    have HR := hide (cq_no hQ)
    clear hQ
    go_enter Tryd.func42, Tryd.ntmps42
    go_wp2_with fail
    refine (specQuarrelsValid_any _ _ _ _ _ hA hl).mono ?_
    rintro e w1 ⟨rfl, hB1⟩
    rw [HQ.out]
    go_wp2_with fail
    go_ret
    exact ⟨by rw [HR.out]; rfl, hB1⟩
  | true =>
    have HQ := hide hQ
    have hg := quarOk_g hQ
    have h0 := hg.1
    have h1 := hg.2.1
    have HX : Hid (∀ x ∈ q, 0 ≤ x ∧ x < 64) := hide (fun x hx => ⟨(quarOk_at hQ hx).1, (quarOk_at hQ hx).2.2⟩)
    obtain ⟨n, hn⟩ : ∃ n : Nat, n = q.length := ⟨_, rfl⟩
    obtain rfl : g = n := by omega
    have hnq1 : n ≤ q.length := by omega
    have hnq2 : q.length ≤ n := by omega
    have hn6 : n ≤ 6 := by omega
    have hp := pow_range6 n hn6
    have HN : Hid (((2 ^ n : Nat) : Int) = (2 : Int) ^ n) := hide (by simp)
    have HR : Hid (cliqueMostL n q = mostGo (peaceL n q) (2 ^ n)) := hide (by unfold cliqueMostL; rw [if_pos hQ, Int.toNat_natCast])
    have HCA : Hid (∀ x : Int, 0 ≤ x → x < 2 ^ n → apartS x (peaceL n q) = cliqueIn q x n) := hide (fun x a b => by
      have := clique_apart hQ a (by rw [full_nat]; omega)
      rwa [Int.toNat_natCast] at this)
    clear hn hg hQ
    go_enter Tryd.func42, Tryd.ntmps42
    go_wp2_with fail
    refine (specQuarrelsValid_any _ _ _ _ _ hA hl).mono ?_
    rintro e w1 ⟨rfl, hB1⟩
    rw [HQ.out]
    have hszB := hB1.size
    go_wp2_with fail
    go_loopw [5, 6] (fun sv i wr => ∃ (x s : Int), 0 ≤ x ∧ x ≤ 2 ^ n ∧ i = .int .i64 x ∧ sv = .int .i64 s ∧ 0 ≤ s ∧ s ≤ 64 ∧ Hid (mostGo (peaceL n q) x.toNat = s) ∧ Below w.heap.size w wr) (fun _ i _ => 64 - (intOf i).toNat)
    case atStart => exact ⟨0, 0, by omega, by omega, rfl, rfl, by omega, by omega, hide rfl, hB1⟩
    case round =>
      obtain ⟨x, s, hx0, hk, rfl, rfl, hs0, hs1, HG, hb⟩ := hrel
      have hsz := hb.size
      by_cases hlt : x < 2 ^ n
      · have hx1 : x < 64 := by omega
        have HA := hide (HCA.out x hx0 hlt)
        go_wp2_with fail
        go_loopw [7, 8] (fun av j wr => ∃ (t : Nat) (b : Bool), t ≤ n ∧ j = .int .i64 t ∧ av = .bool b ∧ Hid (cliqueIn q x t = b) ∧ Below w.heap.size w wr) (fun _ j _ => n - (intOf j).toNat)
        case atStart => exact ⟨0, true, Nat.zero_le _, rfl, rfl, hide rfl, hb⟩
        case round =>
          clear hb hsz
          obtain ⟨t, b, ht, rfl, rfl, HT, hb⟩ := hrel
          have hsz := hb.size
          by_cases htl : t < n
          · have htq : t < q.length := by omega
            obtain ⟨ab, off, rfl, hbl, hc1⟩ := (hA.below hb) t q[t] (List.getElem?_eq_getElem htq)
            have HUD : Hid (q.getD t 0 = q[t]) := hide (by simp [htq])
            have hu := HX.out q[t] (List.getElem_mem htq)
            generalize q[t] = u at *
            have hmt := meet_range hu.1 hu.2 hx0 hx1
            have HSTEP : Hid (cliqueIn q x (t + 1) = (b && (!hasB x t || (meetI u x == x - 2 ^ t)))) := hide (by
              have h := HT.out
              unfold cliqueIn at h ⊢
              rw [allN_succ, h, HUD.out])
            have HC := hide (fun W => l1Meet64_any u x W hu.1 hu.2 hx0 hx1)
            have hd := div_range x t hx0 hx1
            have hpt := pow_range t (by omega)
            have hw1 : IntKind.i64.wrap (2 ^ t) = 2 ^ t := IntWalk.i64_in _ (by omega)
            have hw2 : IntKind.i64.wrap (x - 2 ^ t) = x - 2 ^ t := IntWalk.i64_in _ (by omega)
            have hbz := bit_zero x t
            have ht0 : (0 : Int) ≤ t := by omega
            have ht1 : (t : Int) < n := by omega
            have ht2 : (t : Int) < q.length := by omega
            clear hu hmt
            generalize meetI u x = z at *
            cases b with
            | false =>
              have H3 : Hid (cliqueIn q x (t + 1) = false) := hide (by rw [HSTEP.out]; rfl)
              clear hbz
              go_wp2_with fail
              go_quiet ((go_at_call 82; exact Calls.quiet_of_same (HC.out _)))
              go_wp2_with fail
              go_roundw
              case rel => exact ⟨t + 1, false, htl, by go_num, rfl, H3, below_drewN hb _⟩
              case measure => simp [intOf]; omega
            | true =>
              cases hh : hasB x t with
              | false =>
                have hf : (x / 2 ^ t % 2 == 0) = true := by rw [hbz, hh]; rfl
                have H3 : Hid (cliqueIn q x (t + 1) = true) := hide (by rw [HSTEP.out, hh]; rfl)
                clear hbz hh
                go_wp2_with fail
                go_quiet ((go_at_call 82; exact Calls.quiet_of_same (HC.out _)))
                go_wp2_with fail
                go_roundw
                case rel => exact ⟨t + 1, true, htl, by go_num, rfl, H3, below_drewN hb _⟩
                case measure => simp [intOf]; omega
              | true =>
                have hf : (x / 2 ^ t % 2 == 0) = false := by rw [hbz, hh]; rfl
                cases hzz : (z == x - 2 ^ t) with
                | false =>
                  have H3 : Hid (cliqueIn q x (t + 1) = false) := hide (by rw [HSTEP.out, hh, hzz]; rfl)
                  clear hbz hh
                  go_wp2_with fail
                  go_quiet ((go_at_call 82; exact Calls.quiet_of_same (HC.out _)))
                  go_wp2_with fail
                  go_roundw
                  case rel => exact ⟨t + 1, false, htl, by go_num, rfl, H3, below_drewN hb _⟩
                  case measure => simp [intOf]; omega
                | true =>
                  have H3 : Hid (cliqueIn q x (t + 1) = true) := hide (by rw [HSTEP.out, hzz]; simp)
                  clear hbz hh
                  go_wp2_with fail
                  go_quiet ((go_at_call 82; exact Calls.quiet_of_same (HC.out _)))
                  go_wp2_with fail
                  go_roundw
                  case rel => exact ⟨t + 1, true, htl, by go_num, rfl, H3, below_drewN hb _⟩
                  case measure => simp [intOf]; omega
          · obtain rfl : t = n := by omega
            rw [HT.out] at HA
            cases b with
            | false =>
              have H3 : Hid (mostGo (peaceL t q) (x + 1).toNat = s) := hide (by
                rw [show (x + 1).toNat = x.toNat + 1 from by omega]
                exact most_skip HG.out (by rw [Int.toNat_of_nonneg hx0]; exact HA.out))
              go_wp2_with fail
              go_roundw
              case rel => exact ⟨x + 1, s, by omega, by omega, rfl, rfl, hs0, hs1, H3, hb⟩
              case measure => simp [intOf]; omega
            | true =>
              have H3 : Hid (mostGo (peaceL t q) (x + 1).toNat = if s < sz x then sz x else s) := hide (by
                rw [show (x + 1).toNat = x.toNat + 1 from by omega]
                have := most_step HG.out (by rw [Int.toNat_of_nonneg hx0]; exact HA.out)
                rwa [Int.toNat_of_nonneg hx0] at this)
              have hz := sz_bound x
              have HC := hide (fun W => l6Count_any x W hx0 (by omega))
              generalize sz x = z at *
              by_cases hsl : s < z
              · have H4 : Hid (mostGo (peaceL t q) (x + 1).toNat = z) := hide (by rw [H3.out, if_pos hsl])
                go_wp2_with fail
                refine (HC.out _).mono ?_
                rintro e w2 ⟨rfl, rfl⟩
                go_wp2_with fail
                go_roundw
                case rel => exact ⟨x + 1, z, by omega, by omega, rfl, rfl, hz.1, hz.2, H4, hb⟩
                case measure => simp [intOf]; omega
              · have H4 : Hid (mostGo (peaceL t q) (x + 1).toNat = s) := hide (by rw [H3.out, if_neg hsl])
                go_wp2_with fail
                refine (HC.out _).mono ?_
                rintro e w2 ⟨rfl, rfl⟩
                go_wp2_with fail
                go_roundw
                case rel => exact ⟨x + 1, s, by omega, by omega, rfl, rfl, hs0, hs1, H4, hb⟩
                case measure => simp [intOf]; omega
      · have H3 : Hid (cliqueMostL n q = s) := hide (by rw [HR.out, ← HG.out, show x.toNat = 2 ^ n from by have := HN.out; omega])
        go_wp2_with fail
        go_ret
        exact ⟨by rw [H3.out]; rfl, hb⟩
end Go.Proofs.YtgpcbigaeodhfaaDoor
