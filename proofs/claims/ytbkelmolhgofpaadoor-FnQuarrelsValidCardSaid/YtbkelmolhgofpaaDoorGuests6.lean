/- Guests6: contracts of QuarrelsValid, of the program and of the reference model.
   Conditions: lists have at most 1048576 elements. -/
import Derived.Test.YtbkelmolhgofpaaDoorGuestMath3
import Derived.Test.YtbkelmolhgofpaaDoorGuests5
namespace Go.Proofs.YtbkelmolhgofpaaDoor
open Go.RowKit Go.ChangeShapes Go.WideShapes Go.ChangeAt Go.Deep

theorem quar_no1 {g : Int} {q : List Int} (h : inR g 0 6 = false) : quarOk g q = false := by unfold quarOk; rw [h]; rfl
theorem quar_no2 {g : Int} {q : List Int} (h : (decide ((q.length : Int) = g) && rangeOk (full g) q) = false) : quarOk g q = false := by unfold quarOk; rw [h]; simp
theorem quar_bad {g : Int} {q : List Int} {a b : Nat} (ha : a < q.length) (hb : b < q.length) (h : quarBad q a b = true) : quarOk g q = false := by
  have : allN q.length (quarFine q) = false := allN_false ha (by unfold quarFine; exact allN_false hb (by rw [h]; rfl))
  unfold quarOk
  rw [this]
  simp
theorem bits_ne (x y : Int) (a b : Nat) : (x / 2 ^ a % 2 != y / 2 ^ b % 2) = !(hasB x a == hasB y b) := by
  unfold hasB bne
  rcases Int.emod_two_eq (x / 2 ^ a) with h1 | h1 <;> rcases Int.emod_two_eq (y / 2 ^ b) with h2 | h2 <;> rw [h1, h2] <;> rfl

set_option maxRecDepth 100000 in
set_option maxHeartbeats 2000000 in
theorem implQuarrelsValid_any (g : Int) (A : Option Addr) (c : Nat) (q : List Int) (w : World) (hA : IntsAt w A q) (hl : q.length ≤ 1048576) :
    Calls Tryd.prog 43 #[.int .i64 g, .slice A q.length c] w fun e w' => e = .returned (.bool (quarOk g q)) ∧ Below w.heap.size w w' := by
  cases hg : inR g 0 6 with
  | false =>
    have HG := hide hg
    have HR := hide (quar_no1 (q := q) hg)
    clear hg
    go_enter Tryd.func43, Tryd.ntmps43
    go_wp2_with fail
    refine (inRange_is _ _ _ _ HG _).mono ?_
    rintro e w' ⟨rfl, rfl⟩
    go_wp2_with fail
    go_ret
    exact ⟨by rw [HR.out]; rfl, by go_grown⟩
  | true =>
    have HG := hide hg
    have hg01 := inR_iff.1 hg
    have h0 := hg01.1
    have h1 := hg01.2
    clear hg01
    cases hr : (decide ((q.length : Int) = g) && rangeOk (full g) q) with
    | false =>
      have HQ := hide hr
      have HR := hide (quar_no2 hr)
      clear hg hr
      go_enter Tryd.func43, Tryd.ntmps43
      go_wp2_with fail
      refine (inRange_is _ _ _ _ HG _).mono ?_
      rintro e w' ⟨rfl, rfl⟩
      go_wp2_with fail
      refine (allGuests_any _ _ h0 h1).mono ?_
      rintro e w' ⟨rfl, rfl⟩
      go_wp2_with fail
      refine (allInRange_any _ _ _ _ _ _ hA hl).mono ?_
      rintro e w1 ⟨rfl, hB⟩
      rw [HQ.out]
      go_wp2_with fail
      go_ret
      exact ⟨by rw [HR.out]; rfl, hB⟩
    | true =>
      have HQ := hide hr
      have hr2 := hr
      rw [Bool.and_eq_true, decide_eq_true_eq] at hr2
      obtain ⟨rfl, hr3⟩ := hr2
      have HR : Hid (quarOk q.length q = allN q.length (quarFine q)) := hide (by unfold quarOk; rw [hg, hr]; rfl)
      have hf := full_range h0 h1
      have HX : Hid (∀ x ∈ q, 0 ≤ x ∧ x < 64) := hide (fun x hx => by have := rangeOk_mem hr3 hx; omega)
      have HQ2 := hide hr3
      clear hg hr hr3 hf HQ
      go_enter Tryd.func43, Tryd.ntmps43
      go_wp2_with fail
      refine (inRange_is _ _ _ _ HG _).mono ?_
      rintro e w' ⟨rfl, rfl⟩
      go_wp2_with fail
      refine (allGuests_any _ _ h0 h1).mono ?_
      rintro e w' ⟨rfl, rfl⟩
      go_wp2_with fail
      refine (allInRange_self _ _ _ _ _ hA hl).mono ?_
      rintro e w1 ⟨rfl, hB⟩
      rw [HQ2.out]
      have hszB := hB.size
      go_wp2_with fail
      go_loopw [21] (fun i wr => ∃ k : Nat, k ≤ q.length ∧ i = .int .i64 k ∧ Hid (∀ i, i < k → quarFine q i = true) ∧ Below w.heap.size w wr) (fun i _ => q.length - (intOf i).toNat)
      case atStart => exact ⟨0, Nat.zero_le _, rfl, hide (fun i hi => by omega), hB⟩
      case round =>
        obtain ⟨k, hk, rfl, HS, hb⟩ := hrel
        have hsz := hb.size
        by_cases hlt : k < q.length
        · obtain ⟨b, off, rfl, hbl, hc1⟩ := (hA.below hb) k q[k] (List.getElem?_eq_getElem hlt)
          have HP : Hid (q.getD k 0 = q[k]) := hide (by simp [hlt])
          have hx := HX.out q[k] (List.getElem_mem hlt)
          generalize q[k] = s at *
          have hs0 : 0 ≤ s := hx.1
          have hs1 : s < 64 := hx.2
          clear hx
          have hz : (0 : Int) ≤ k := by omega
          have hz2 : (k : Int) < q.length := by omega
          have hz3 : (k : Int) < 6 := by omega
          go_wp2_with fail
          clear hc1
          go_loopw [27] (fun j wr => ∃ t : Nat, t ≤ q.length ∧ j = .int .i64 t ∧ Hid (∀ b, b < t → quarBad q k b = false) ∧ Below w.heap.size w wr) (fun j _ => q.length - (intOf j).toNat)
          case atStart => exact ⟨0, Nat.zero_le _, rfl, hide (fun i hi => by omega), hb⟩
          case round =>
            obtain ⟨t, ht, rfl, HT, hb2⟩ := hrel
            have hsz2 := hb2.size
            by_cases htl : t < q.length
            · have HYE : Hid (q[t]? = some q[t]) := hide (List.getElem?_eq_getElem htl)
              have HYD : Hid (q.getD t 0 = q[t]) := hide (by simp [htl])
              have hy := HX.out q[t] (List.getElem_mem htl)
              generalize q[t] = y at *
              have hy0 : 0 ≤ y := hy.1
              have hy1 : y < 64 := hy.2
              clear hy
              have hcy := (hA.below hb2).cellOf HYE.out
              have ht0 : (0 : Int) ≤ t := by omega
              have ht1 : (t : Int) < q.length := by omega
              have ht3 : (t : Int) < 6 := by omega
              have HNX : quarBad q k t = false → Hid (∀ b, b < t + 1 → quarBad q k b = false) := fun h => hide (fun b hb => by
                by_cases e : b = t
                · subst e; exact h
                · exact HT.out b (by omega))
              cases hh : hasB s t with
              | false =>
                have HH := hide hh
                have H3 := HNX (by unfold quarBad; rw [HP.out, hh]; rfl)
                clear hh HNX
                go_wp2_with fail
                refine (inSet_w _ _ _ hs0 hs1 ht0 ht3 false (by rw [Int.toNat_natCast]; exact HH)).mono ?_
                rintro e w3 ⟨rfl, rfl⟩
                go_wp2_with fail
                go_roundw
                case rel => exact ⟨t + 1, htl, by go_num, H3, hb2⟩
                case measure => simp [intOf]; omega
              | true =>
                have HH := hide hh
                by_cases etk : t = k
                · have he1 : ((t : Int) == (k : Int)) = true := by simp [etk]
                  have H3 : Hid (quarOk q.length q = false) := hide (quar_bad hlt htl (by unfold quarBad; rw [HP.out, hh, decide_eq_true etk]; rfl))
                  clear hh HNX etk
                  go_wp2_with fail
                  refine (inSet_w _ _ _ hs0 hs1 ht0 ht3 true (by rw [Int.toNat_natCast]; exact HH)).mono ?_
                  rintro e w3 ⟨rfl, rfl⟩
                  go_wp2_with fail
                  go_ret
                  exact ⟨by rw [H3.out]; rfl, hb2⟩
                · have he1 : ((t : Int) == (k : Int)) = false := by rw [beq_eq_false_iff_ne]; omega
                  cases hh2 : hasB y k with
                  | true =>
                    have HH2 := hide hh2
                    have H3 := HNX (by unfold quarBad; rw [HP.out, HYD.out, hh, hh2, decide_eq_false etk]; rfl)
                    clear hh hh2 HNX etk
                    go_wp2_with fail
                    refine (inSet_w _ _ _ hs0 hs1 ht0 ht3 true (by rw [Int.toNat_natCast]; exact HH)).mono ?_
                    rintro e w3 ⟨rfl, rfl⟩
                    go_wp2_with fail
                    refine (inSet_w _ _ _ hy0 hy1 hz hz3 true (by rw [Int.toNat_natCast]; exact HH2)).mono ?_
                    rintro e w3 ⟨rfl, rfl⟩
                    go_wp2_with fail
                    go_roundw
                    case rel => exact ⟨t + 1, htl, by go_num, H3, hb2⟩
                    case measure => simp [intOf]; omega
                  | false =>
                    have HH2 := hide hh2
                    have H3 : Hid (quarOk q.length q = false) := hide (quar_bad hlt htl (by unfold quarBad; rw [HP.out, HYD.out, hh, hh2]; simp))
                    clear hh hh2 HNX etk
                    go_wp2_with fail
                    refine (inSet_w _ _ _ hs0 hs1 ht0 ht3 true (by rw [Int.toNat_natCast]; exact HH)).mono ?_
                    rintro e w3 ⟨rfl, rfl⟩
                    go_wp2_with fail
                    refine (inSet_w _ _ _ hy0 hy1 hz hz3 false (by rw [Int.toNat_natCast]; exact HH2)).mono ?_
                    rintro e w3 ⟨rfl, rfl⟩
                    go_wp2_with fail
                    go_ret
                    exact ⟨by rw [H3.out]; rfl, hb2⟩
            · have H3 : Hid (∀ i, i < k + 1 → quarFine q i = true) := hide (fun i hi => by
                by_cases e : i = k
                · subst e
                  unfold quarFine
                  rw [allN_iff]
                  intro b hb
                  rw [HT.out b (by omega)]
                  rfl
                · exact HS.out i (by omega))
              go_wp2_with fail
              go_roundw
              case rel => exact ⟨k + 1, hlt, by go_num, H3, hb2⟩
              case measure => simp [intOf]; omega
        · have H3 : Hid (quarOk q.length q = true) := hide (by rw [HR.out, allN_iff]; intro i hi; exact HS.out i (by omega))
          go_wp2_with fail
          go_ret
          exact ⟨by rw [H3.out]; rfl, hb⟩

set_option maxRecDepth 100000 in
set_option maxHeartbeats 4000000 in
theorem specQuarrelsValid_q (g : Int) (A : Option Addr) (c : Nat) (q : List Int) (w : World) (hA : IntsAt w A q) (hl : q.length ≤ 1048576) :
    Calls Tryd.prog 44 #[.int .i64 g, .slice A q.length c] w fun e w' => e = .returned (.bool (quarOk g q)) ∧ ∃ n, w' = w.drewN n := by
  cases hg : inR g 0 6 with
  | false =>
    have HG := hide hg
    have HR := hide (quar_no1 (q := q) hg)
    clear hg
    go_enter Tryd.func44, Tryd.ntmps44
    go_wp2_with fail
    refine (l1In_w _ _ _ _ HG _).mono ?_
    rintro e w' ⟨rfl, rfl⟩
    go_wp2_with fail
    go_ret
    exact ⟨by rw [HR.out]; rfl, 0, rfl⟩
  | true =>
    have HG := hide hg
    by_cases hlg : (q.length : Int) = g
    · subst hlg
      have h6 : q.length ≤ 6 := by have := (inR_iff.1 hg).2; omega
      have HR := hide (quarOk_rows hg rfl)
      have hp := pow_range6 q.length h6
      have hw1 : IntKind.i64.wrap (2 ^ q.length) = 2 ^ q.length := IntWalk.i64_in _ (by omega)
      have hw2 : IntKind.i64.wrap (2 ^ q.length - 1) = full q.length := by rw [full_nat]; exact IntWalk.i64_in _ (by omega)
      have hne : ((q.length : Int) != q.length) = false := by simp
      have HF := hide (full_range (g := q.length) (by omega) (by omega))
      clear hg
      have HNO : Hid (∀ k, k < q.length → quarRow q.length q k = false → quarOk q.length q = false) := hide (fun k hk h => by rw [HR.out]; exact allN_false hk h)
      go_enter Tryd.func44, Tryd.ntmps44
      go_wp2_with fail
      refine (l1In_w _ _ _ _ HG _).mono ?_
      rintro e w' ⟨rfl, rfl⟩
      go_wp2_with fail
      go_loopw [5] (fun i wr => ∃ (k n : Nat), k ≤ q.length ∧ i = .int .i64 k ∧ Hid (∀ i, i < k → quarRow q.length q i = true) ∧ Hid (wr = w.drewN n)) (fun i _ => q.length - (intOf i).toNat)
      case atStart => exact ⟨0, 0, Nat.zero_le _, rfl, hide (fun i hi => by omega), hide rfl⟩
      case round =>
        obtain ⟨k, n, hk, rfl, HS, HW⟩ := hrel
        have hb : Below w.heap.size w wr := by rw [HW.out]; exact below_drewN (Below.refl _ _) n
        have hsz := hb.size
        by_cases hlt : k < q.length
        · obtain ⟨b, off, rfl, hbl, hc1⟩ := (hA.below hb) k q[k] (List.getElem?_eq_getElem hlt)
          have HP : Hid (q.getD k 0 = q[k]) := hide (by simp [hlt])
          have HPE : Hid (q[k]? = some q[k]) := hide (List.getElem?_eq_getElem hlt)
          generalize q[k] = s at *
          have hz : (0 : Int) ≤ k := by omega
          have hz2 : (k : Int) < q.length := by omega
          cases h1 : inR s 0 (full q.length) with
          | false =>
            have H1 := hide h1
            have H3 := hide (HNO.out k hlt (by unfold quarRow; rw [HP.out, h1]; rfl))
            clear h1
            go_wp2_with fail
            go_quiet ((go_at_call 61; exact Calls.quiet_of_same (l1In_is _ _ _ _ H1 _)))
            go_wp2_with fail
            go_ret
            exact ⟨by rw [H3.out]; rfl, _, by rw [HW.out, World.drewN_drewN]⟩
          | true =>
            have H1 := hide h1
            have hs01 := inR_iff.1 h1
            have hs0 := hs01.1
            have hs1 : s < 64 := by have := HF.out; omega
            clear hs01
            have hd1 := div_range s k hs0 hs1
            cases hself : hasB s k with
            | true =>
              have hf1 : (s / 2 ^ k % 2 == 1) = true := hself
              have H3 := hide (HNO.out k hlt (by unfold quarRow; rw [HP.out, hself]; simp))
              clear h1 hself
              go_wp2_with fail
              go_quiet ((go_at_call 61; exact Calls.quiet_of_same (l1In_is _ _ _ _ H1 _)))
              go_wp2_with fail
              go_ret
              exact ⟨by rw [H3.out]; rfl, _, by rw [HW.out, World.drewN_drewN]⟩
            | false =>
              have hf1 : (s / 2 ^ k % 2 == 1) = false := hself
              have HROW : Hid (quarRow q.length q k = allN k (fun b => inR (q.getD b 0) 0 (full q.length) && (hasB s b == hasB (q.getD b 0) k))) := hide (by unfold quarRow; rw [HP.out, h1, hself]; rfl)
              clear h1 hself
              go_wp2_with fail
              go_quiet ((go_at_call 61; exact Calls.quiet_of_same (l1In_is _ _ _ _ H1 _)))
              go_wp2_with fail
              clear hc1 hf1 hd1
              have HW3 : Hid (wr.drewN nq = w.drewN (n + nq)) := hide (by rw [HW.out, World.drewN_drewN])
              go_loopw [6] (fun j wr => ∃ (t n : Nat), t ≤ k ∧ j = .int .i64 t ∧ Hid (∀ b, b < t → (hasB s b == hasB (q.getD b 0) k) = true) ∧ Hid (wr = w.drewN n)) (fun j _ => k - (intOf j).toNat)
              case atStart => exact ⟨0, _, Nat.zero_le _, rfl, hide (fun i hi => by omega), HW3⟩
              case round =>
                obtain ⟨t, n2, ht, rfl, HT, HW2⟩ := hrel
                have hb2 : Below w.heap.size w wr := by rw [HW2.out]; exact below_drewN (Below.refl _ _) n2
                have hsz2 := hb2.size
                by_cases htl : t < k
                · have htq : t < q.length := by omega
                  have HYE : Hid (q[t]? = some q[t]) := hide (List.getElem?_eq_getElem htq)
                  have HYD : Hid (q.getD t 0 = q[t]) := hide (by simp [htq])
                  have hyr := HS.out t htl
                  unfold quarRow at hyr
                  rw [Bool.and_eq_true, Bool.and_eq_true, HYD.out] at hyr
                  generalize q[t] = y at *
                  have H2 := hide hyr.1.1
                  have hy01 := inR_iff.1 hyr.1.1
                  have hy0 := hy01.1
                  have hy1 : y < 64 := by have := HF.out; omega
                  clear hyr hy01
                  have hcs := (hA.below hb2).cellOf HPE.out
                  have hcy := (hA.below hb2).cellOf HYE.out
                  have hd1 := div_range s t hs0 hs1
                  have hd2 := div_range y k hy0 hy1
                  have ht0 : (0 : Int) ≤ t := by omega
                  have ht1 : (t : Int) < k := by omega
                  have ht2 : (t : Int) < q.length := by omega
                  have hbn := bits_ne s y t k
                  cases hh : (hasB s t == hasB y k) with
                  | true =>
                    have hf2 : (s / 2 ^ t % 2 != y / 2 ^ k % 2) = false := by rw [hbn, hh]; rfl
                    have H3 : Hid (∀ b, b < t + 1 → (hasB s b == hasB (q.getD b 0) k) = true) := hide (fun b hb => by
                      by_cases e : b = t
                      · subst e; rw [HYD.out]; exact hh
                      · exact HT.out b (by omega))
                    clear hh hbn
                    go_wp2_with fail
                    go_quiet ((go_at_call 61; exact Calls.quiet_of_same (l1In_is _ _ _ _ H2 _)))
                    go_wp2_with fail
                    go_roundw
                    case rel => exact ⟨t + 1, _, htl, by go_num, H3, hide (by rw [HW2.out, World.drewN_drewN])⟩
                    case measure => simp [intOf]; omega
                  | false =>
                    have hf2 : (s / 2 ^ t % 2 != y / 2 ^ k % 2) = true := by rw [hbn, hh]; rfl
                    have H3 := hide (HNO.out k hlt (by rw [HROW.out]; exact allN_false htl (by rw [HYD.out, hh]; simp)))
                    clear hh hbn
                    go_wp2_with fail
                    go_quiet ((go_at_call 61; exact Calls.quiet_of_same (l1In_is _ _ _ _ H2 _)))
                    go_wp2_with fail
                    go_ret
                    exact ⟨by rw [H3.out]; rfl, _, by rw [HW2.out, World.drewN_drewN]⟩
                · have H3 : Hid (∀ i, i < k + 1 → quarRow q.length q i = true) := hide (fun i hi => by
                    by_cases e : i = k
                    · subst e
                      rw [HROW.out, allN_iff]
                      intro b hb
                      have := HS.out b (by omega)
                      unfold quarRow at this
                      rw [Bool.and_eq_true, Bool.and_eq_true] at this
                      rw [HT.out b (by omega), this.1.1]
                      rfl
                    · exact HS.out i (by omega))
                  go_wp2_with fail
                  go_roundw
                  case rel => exact ⟨k + 1, _, hlt, by go_num, H3, HW2⟩
                  case measure => simp [intOf]; omega
        · have H3 : Hid (quarOk q.length q = true) := hide (by rw [HR.out, allN_iff]; intro i hi; exact HS.out i (by omega))
          go_wp2_with fail
          go_ret
          exact ⟨by rw [H3.out]; rfl, n, HW.out⟩
    · have HR := hide (quar_no2 (g := g) (q := q) (by rw [decide_eq_false hlg]; rfl))
      have hne : ((q.length : Int) != g) = true := by simp [hlg]
      clear hlg hg
      go_enter Tryd.func44, Tryd.ntmps44
      go_wp2_with fail
      refine (l1In_w _ _ _ _ HG _).mono ?_
      rintro e w' ⟨rfl, rfl⟩
      go_wp2_with fail
      go_ret
      exact ⟨by rw [HR.out]; rfl, 0, rfl⟩
theorem specQuarrelsValid_any (g : Int) (A : Option Addr) (c : Nat) (q : List Int) (w : World) (hA : IntsAt w A q) (hl : q.length ≤ 1048576) :
    Calls Tryd.prog 44 #[.int .i64 g, .slice A q.length c] w fun e w' => e = .returned (.bool (quarOk g q)) ∧ Below w.heap.size w w' :=
  (specQuarrelsValid_q g A c q w hA hl).mono fun _ _ h => ⟨h.1, below_of_drew h.2⟩
end Go.Proofs.YtbkelmolhgofpaaDoor
