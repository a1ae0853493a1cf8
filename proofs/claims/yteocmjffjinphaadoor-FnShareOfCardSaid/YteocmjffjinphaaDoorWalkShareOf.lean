/- For all drawn bytes the law of ShareOf answers true, and its argument reads as it did.
   Conditions: none. -/
import Derived.Test.YteocmjffjinphaaDoorLawKit
import Derived.Test.YteocmjffjinphaaDoorDrawShares
import Derived.Test.YteocmjffjinphaaDoorShare2
import Derived.Test.YteocmjffjinphaaDoorShareMath2
import Derived.Test.YteocmjffjinphaaDoorLists
namespace Go.Proofs.YteocmjffjinphaaDoor
open Go.RowKit Go.ChangeShapes Go.WideShapes Go.ChangeAt

theorem share_at {xs P : List Int} {s : Int} (h : ShareSaid xs s P) (hk : ShOk xs s) {a : Nat} (ha : a < xs.length) : ∃ p x : Int, P[a]? = some p ∧ xs[a]? = some x ∧ P.getD a 0 = p ∧ xs.getD a 0 = x ∧ 0 ≤ p ∧ p ≤ 9999 ∧ 0 ≤ x ∧ x ≤ 20 ∧ p * sumL xs - s * x < sumL xs ∧ -(sumL xs) < p * sumL xs - s * x ∧ (x = 0 → p = 0) := by
  have hP : a < P.length := by rw [h.len]; exact ha
  have hp := h.rng P[a] (List.getElem_mem hP)
  have hx := hk.rng xs[a] (List.getElem_mem ha)
  have e1 : P.getD a 0 = P[a] := by simp [hP]
  have e2 : xs.getD a 0 = xs[a] := by simp [ha]
  have hn := h.near a ha
  have hz := h.none a ha
  rw [e1, e2] at hn hz
  exact ⟨P[a], xs[a], List.getElem?_eq_getElem hP, List.getElem?_eq_getElem ha, e1, e2, hp.1, hp.2, hx.1, hx.2, hn.1, hn.2, hz⟩

def DrawnShare (w : World) (e : Ending) (w' : World) : Prop := ∃ (xs : List Int) (g c : Nat) (s : Int), e = .returned (.tuple #[.slice (some ⟨g, 0, none⟩) xs.length c, .int .i64 s]) ∧ IntsAt w' (some ⟨g, 0, none⟩) xs ∧ xs.length ≤ 8 ∧ g < w'.heap.size ∧ -20000 ≤ s ∧ s ≤ 20000 ∧ Below w.heap.size w w'

set_option maxHeartbeats 1000000 in
theorem drawShareOf_any (A : Option Addr) (c m : Nat) (w : World) (hB : BytesIn w A m) (hm : m ≤ 9223372036854775807) (hc : m ≤ c) (hc2 : c ≤ 9223372036854775807) :
    Calls Tryd.prog 40 #[.slice A m c] w (DrawnShare w) := by
  go_enter Tryd.func40, Tryd.ntmps40
  go_wp2_with fail
  refine (open_any A c m w hB hm hc hc2).mono ?_
  rintro e w1 ⟨rfl, hR1, hb1⟩
  have hz1 := hb1.size
  have hlt1 := hR1.lt
  go_wp2_with fail
  refine (l20Shares_any w.heap.size 0 9 _ hR1 (by omega) (by omega)).mono ?_
  rintro e w2 ⟨xs, g, c2, rfl, hS2, hl, hR2, hg2, -⟩
  have hb2 : Below w.heap.size w w2 := hb1.grown hg2 hz1 (fun j hj => by injection hj with hj; omega)
  have HS2 := hide hS2
  have hz2 := hb2.size
  have hgl2 := (IntSl.capI hS2).2.2.2
  clear hS2 hg2
  go_wp2_with fail
  refine (l20Sum_any w.heap.size _ _ hR2 (by omega)).mono ?_
  rintro e w3 ⟨s, rfl, hs0, hs1, hR3, hg3⟩
  have hb3 : Below w.heap.size w w3 := hb2.grown hg3 hz2 (fun j hj => by injection hj with hj; omega)
  have HI3 := hide (IntSl.ints (row_pickI HS2.out hlt1 hg3))
  have hz3 := hg3.size
  clear hg3
  go_wp2_with fail
  refine bodyPost_ret (results_tmp2 rfl _ _ _) rfl ⟨xs, g, c2, s, rfl, HI3.out, hl, by omega, hs0, hs1, hb3⟩

set_option maxRecDepth 100000 in
set_option maxHeartbeats 4000000 in
theorem lawShareOf_any (A : Option Addr) (c m : Nat) (w : World) (hB : BytesIn w A m) (hc : m ≤ c) (hc2 : c ≤ 9223372036854775807) :
    Calls Tryd.prog 10 #[.slice A m c] w fun e w' => e = .returned (.bool true) ∧ Below w.heap.size w w' := by
  by_cases hlen : (1048576 : Int) < m
  · go_enter Tryd.func10, Tryd.ntmps10
    go_wp2_with fail
    go_ret
    exact ⟨rfl, by go_grown⟩
  · go_enter Tryd.func10, Tryd.ntmps10
    go_wp2_with fail
    refine (drawShareOf_any A c m w hB (by omega) hc hc2).mono ?_
    rintro e w1 ⟨xs, g, c1, s, rfl, hI, hl, hgl, hs0, hs1, hb1⟩
    have hl' : xs.length ≤ 1048576 := by omega
    have HI1 := hide hI
    obtain ⟨P, HP⟩ : ∃ P, Hid (shareOfL xs s = P) := ⟨_, hide rfl⟩
    have hPl : P.length ≤ 1048576 := by
      rw [← HP.out]
      exact Nat.le_trans (shareOfL_len _ _) hl'
    clear hI
    go_wp2_with fail
    refine (implShareOf_any ⟨g, 0, none⟩ _ _ _ _ HI1.out hl').mono ?_
    rintro e w2 ⟨v, rfl, hv, hB2⟩
    rw [HP.out] at hv
    obtain ⟨A2, k2, rfl, hI2, -⟩ := hv.form
    have hb2 := next hb1 hB2
    have HI2 := hide (HI1.out.below hB2)
    have HT2 := hide hI2
    clear hB2 hv hI2
    go_wp2_with fail
    refine (specShareOf_any _ _ _ _ _ HI2.out hl').mono ?_
    rintro e w3 ⟨v, rfl, hv, hB3⟩
    rw [HP.out] at hv
    obtain ⟨A3, k3, rfl, hI3, -⟩ := hv.form
    have hb3 := next hb2 hB3
    have HI3 := hide (HI2.out.below hB3)
    have HT3 := hide (HT2.out.below hB3)
    have HU3 := hide hI3
    clear hB3 hv hI3
    go_wp2_with fail
    refine (sameInts_same _ _ _ _ _ _ HT3.out HU3.out hPl).mono ?_
    rintro e w4 ⟨rfl, hB4⟩
    have hb4 := next hb3 hB4
    have HI4 := hide (HI3.out.below hB4)
    have HT4 := hide (HT3.out.below hB4)
    clear hB4
    go_wp2_with fail
    refine (specSharesValid_any _ _ _ _ HI4.out hl').mono ?_
    rintro e w5 ⟨rfl, hB5⟩
    have hb5 := next hb4 hB5
    have HI5 := hide (HI4.out.below hB5)
    have HT5 := hide (HT4.out.below hB5)
    clear hB5 HI1 HI2 HI3 HI4 HT2 HT3 HT4 HU3
    cases hok : shareOkL xs s with
    | false =>
      have hT0 : P = [] := by rw [← HP.out]; unfold shareOfL; rw [if_neg (by rw [hok]; decide)]
      subst hT0
      cases hv : sharesOk xs with
      | false =>
        clear hok
        go_wp2_with fail
        refine (alive_any _).mono ?_
        rintro e w6 ⟨rfl, hB6⟩
        go_wp2_with fail
        go_ret
        exact ⟨rfl, next hb5 hB6⟩
      | true =>
        by_cases hneg : s < 0
        · clear hok
          go_wp2_with fail
          refine (alive_any _).mono ?_
          rintro e w6 ⟨rfl, hB6⟩
          go_wp2_with fail
          go_ret
          exact ⟨rfl, next hb5 hB6⟩
        · have hbig : (9999 : Int) < s := by
            unfold shareOkL at hok
            rw [hv, Bool.true_and] at hok
            rcases Int.lt_or_le 9999 s with e | e
            · exact e
            · rw [inR_iff.2 ⟨by omega, e⟩] at hok
              cases hok
          clear hok
          go_wp2_with fail
          refine (alive_any _).mono ?_
          rintro e w6 ⟨rfl, hB6⟩
          go_wp2_with fail
          go_ret
          exact ⟨rfl, next hb5 hB6⟩
    | true =>
      have hk := ShOk.of hok
      have hS : ShareSaid xs s P := by
        have := share_said hk
        rw [← HP.out]
        unfold shareOfL
        rw [if_pos hok]
        exact this
      have hvalid : sharesOk xs = true := by
        unfold shareOkL at hok
        simp only [Bool.and_eq_true] at hok
        exact hok.1
      have HAT := hide (fun a (h : a < xs.length) => share_at hS hk h)
      have HMO := hide hS.mono
      have HPN : Hid (P.length = xs.length) := hide hS.len
      have hpn1 : P.length ≤ xs.length := by rw [hS.len]; exact Nat.le_refl _
      have hpn2 : xs.length ≤ P.length := by rw [hS.len]; exact Nat.le_refl _
      obtain ⟨t, ht⟩ : ∃ t, sumL xs = t := ⟨_, rfl⟩
      have ht1 : 1 ≤ t := ht ▸ hk.t1
      have ht140 : t ≤ 140 := ht ▸ hk.t140
      have HST : Hid (sumW xs = t) := hide (hk.sum.trans ht)
      have HSP : Hid (sumW P = s) := hide (by rw [sumW_plain hS.rng (by omega) (by have := hk.n7; rw [hS.len]; omega), hS.sum])
      rw [ht] at HAT
      have hn0 : ¬ s < 0 := by have := hk.s0; omega
      have hn1 : ¬ (9999 : Int) < s := by have := hk.s1; omega
      have hs00 : 0 ≤ s := by omega
      have hs99 : s ≤ 9999 := by omega
      have hss : (s == s) = true := by simp
      rw [hvalid]
      clear hok hk hS hvalid ht
      go_wp2_with fail
      refine (lawSumI_any _ _ _ _ HI5.out hl').mono ?_
      rintro e w6 ⟨rfl, rfl⟩
      rw [HST.out]
      go_wp2_with fail
      go_loopw [7] (fun iv wr => ∃ a : Nat, a ≤ xs.length ∧ iv = .int .i64 a ∧ Below w5.heap.size w5 wr) (fun iv _ => xs.length - (intOf iv).toNat)
      case atStart => exact ⟨0, Nat.zero_le _, rfl, Below.refl _ _⟩
      case round =>
        obtain ⟨a, ha, rfl, hd⟩ := hrel
        have hb := next hb5 hd
        have hsz := hd.size
        by_cases hlt : a < xs.length
        · obtain ⟨p, x, hp, hx, hpD, hxD, hp0, hp1, hx0, hx1, hnear1, hnear2, hnone⟩ := HAT.out a hlt
          have HPD := hide hpD
          have HXD := hide hxD
          obtain ⟨M1, hM1⟩ : ∃ M1, p * t = M1 := ⟨_, rfl⟩
          obtain ⟨M2, hM2⟩ : ∃ M2, s * x = M2 := ⟨_, rfl⟩
          obtain ⟨hr1, hr2⟩ := mul_rng (p := p) (q := t) (P := 9999) (Q := 140) hp0 hp1 (by omega) ht140 (by omega)
          obtain ⟨hr3, hr4⟩ := mul_rng (p := s) (q := x) (P := 9999) (Q := 20) hs00 hs99 hx0 hx1 (by omega)
          have hw1 : IntKind.i64.wrap (p * t) = M1 := (IntWalk.i64_in _ (by omega)).trans hM1
          have hw2 : IntKind.i64.wrap (s * x) = M2 := (IntWalk.i64_in _ (by omega)).trans hM2
          rw [hM1, hM2] at hnear1 hnear2
          rw [hM1] at hr1 hr2
          rw [hM2] at hr3 hr4
          obtain ⟨D, hD⟩ : ∃ D, M1 - M2 = D := ⟨_, rfl⟩
          have hw3 : IntKind.i64.wrap (M1 - M2) = D := (IntWalk.i64_in _ (by omega)).trans hD
          rw [hD] at hnear1 hnear2
          have hge : ¬ t ≤ D := by omega
          have hle : ¬ D ≤ -t := by omega
          obtain ⟨b, off, rfl, hbl, hc1⟩ := (HT5.out.below hd) a _ hp
          obtain ⟨b2, off2, hDD, hbl2, hc3⟩ := (HI5.out.below hd) a _ hx
          injection hDD with hDD
          injection hDD with e1 e2
          subst e1 e2
          rw [Nat.zero_add] at hc3
          have HC1 := hide hc1
          have HC3 := hide hc3
          have hy0 : (0 : Int) ≤ a := by omega
          have hy1 : (a : Int) < xs.length := by omega
          have hy2 : (a : Int) < P.length := by omega
          clear hM1 hM2 hD hpD hxD hp hx hr1 hr2
          by_cases hxz : x = 0
          · have hpz : p = 0 := hnone hxz
            have hg1 : (x == 0) = true := by rw [hxz]; rfl
            have hg2 : (p != 0) = false := by rw [hpz]; rfl
            clear hxz hpz hnone
            go_wp2_with fail
            go_quiet (fail)
            go_wp2_with fail
            go_loopw [9] (fun iv wq => ∃ b' : Nat, b' ≤ xs.length ∧ iv = .int .i64 b' ∧ Below wr.heap.size wr wq) (fun iv _ => xs.length - (intOf iv).toNat)
            case atStart => exact ⟨0, Nat.zero_le _, rfl, below_drewN (Below.refl _ _) _⟩
            case round =>
              obtain ⟨bi, hbi, rfl, hd2⟩ := hrel
              by_cases hlt2 : bi < xs.length
              · obtain ⟨q, y, hq, hy, hqD, hyD, -, -, -, -, -, -, -⟩ := HAT.out bi hlt2
                have hmo : y < x → q ≤ p := fun h => by
                  have := HMO.out a bi hlt hlt2
                  rw [HPD.out, HXD.out, hqD, hyD] at this
                  exact this h
                obtain ⟨b3, off3, hDD, hbl3, hc4⟩ := ((HT5.out.below hd).below hd2) bi _ hq
                injection hDD with hDD
                injection hDD with e1 e2
                subst e1 e2
                obtain ⟨b4, off4, hDD, hbl4, hc5⟩ := ((HI5.out.below hd).below hd2) bi _ hy
                injection hDD with hDD
                injection hDD with e1 e2
                subst e1 e2
                rw [Nat.zero_add] at hc5
                have hc6 := (hd2.cell hbl).trans HC1.out
                have hc7 := (hd2.cell hbl2).trans HC3.out
                have hz0 : (0 : Int) ≤ bi := by omega
                have hz1 : (bi : Int) < xs.length := by omega
                have hz2 : (bi : Int) < P.length := by omega
                clear hq hy hqD hyD
                by_cases hyx : y < x
                · have hqp : decide (p < q) = false := decide_eq_false (by have := hmo hyx; omega)
                  have hyx2 : decide (y < x) = true := decide_eq_true hyx
                  clear hmo
                  go_wp2_with fail
                  go_quiet (fail)
                  go_wp2_with fail
                  go_roundw
                  case rel => exact ⟨bi + 1, hlt2, by go_num, below_drewN hd2 _⟩
                  case measure => simp [intOf]; omega
                · have hyx2 : decide (y < x) = false := decide_eq_false hyx
                  clear hmo
                  go_wp2_with fail
                  go_quiet (fail)
                  go_wp2_with fail
                  go_roundw
                  case rel => exact ⟨bi + 1, hlt2, by go_num, below_drewN hd2 _⟩
                  case measure => simp [intOf]; omega
              · have hz1 : ¬ (bi : Int) < P.length := by omega
                go_wp2_with fail
                go_roundw
                case rel => exact ⟨a + 1, hlt, by go_num, next hd hd2⟩
                case measure => simp [intOf]; omega
          · have hg1 : (x == 0) = false := beq_false_of_ne hxz
            clear hxz hnone
            go_wp2_with fail
            go_quiet (fail)
            go_wp2_with fail
            go_loopw [9] (fun iv wq => ∃ b' : Nat, b' ≤ xs.length ∧ iv = .int .i64 b' ∧ Below wr.heap.size wr wq) (fun iv _ => xs.length - (intOf iv).toNat)
            case atStart => exact ⟨0, Nat.zero_le _, rfl, below_drewN (Below.refl _ _) _⟩
            case round =>
              obtain ⟨bi, hbi, rfl, hd2⟩ := hrel
              by_cases hlt2 : bi < xs.length
              · obtain ⟨q, y, hq, hy, hqD, hyD, -, -, -, -, -, -, -⟩ := HAT.out bi hlt2
                have hmo : y < x → q ≤ p := fun h => by
                  have := HMO.out a bi hlt hlt2
                  rw [HPD.out, HXD.out, hqD, hyD] at this
                  exact this h
                obtain ⟨b3, off3, hDD, hbl3, hc4⟩ := ((HT5.out.below hd).below hd2) bi _ hq
                injection hDD with hDD
                injection hDD with e1 e2
                subst e1 e2
                obtain ⟨b4, off4, hDD, hbl4, hc5⟩ := ((HI5.out.below hd).below hd2) bi _ hy
                injection hDD with hDD
                injection hDD with e1 e2
                subst e1 e2
                rw [Nat.zero_add] at hc5
                have hc6 := (hd2.cell hbl).trans HC1.out
                have hc7 := (hd2.cell hbl2).trans HC3.out
                have hz0 : (0 : Int) ≤ bi := by omega
                have hz1 : (bi : Int) < xs.length := by omega
                have hz2 : (bi : Int) < P.length := by omega
                clear hq hy hqD hyD
                by_cases hyx : y < x
                · have hqp : decide (p < q) = false := decide_eq_false (by have := hmo hyx; omega)
                  have hyx2 : decide (y < x) = true := decide_eq_true hyx
                  clear hmo
                  go_wp2_with fail
                  go_quiet (fail)
                  go_wp2_with fail
                  go_roundw
                  case rel => exact ⟨bi + 1, hlt2, by go_num, below_drewN hd2 _⟩
                  case measure => simp [intOf]; omega
                · have hyx2 : decide (y < x) = false := decide_eq_false hyx
                  clear hmo
                  go_wp2_with fail
                  go_quiet (fail)
                  go_wp2_with fail
                  go_roundw
                  case rel => exact ⟨bi + 1, hlt2, by go_num, below_drewN hd2 _⟩
                  case measure => simp [intOf]; omega
              · have hz1 : ¬ (bi : Int) < P.length := by omega
                go_wp2_with fail
                go_roundw
                case rel => exact ⟨a + 1, hlt, by go_num, next hd hd2⟩
                case measure => simp [intOf]; omega
        · have hy1 : ¬ (a : Int) < P.length := by omega
          have HT6 := hide (HT5.out.below hd)
          go_wp2_with fail
          refine (lawSumI_any _ _ _ _ HT6.out hPl).mono ?_
          rintro e w7 ⟨rfl, rfl⟩
          rw [HSP.out]
          go_wp2_with fail
          go_ret
          exact ⟨rfl, hb⟩
end Go.Proofs.YteocmjffjinphaaDoor
