/- For all drawn bytes the law of TakeFirst answers true, and its argument reads as it did.
   Conditions: none. -/
import Derived.Test.YtecmghoklleheaaDoorLawKit
import Derived.Test.YtecmghoklleheaaDoorDrawTF
import Derived.Test.YtecmghoklleheaaDoorTakeMath2
import Derived.Test.YtecmghoklleheaaDoorLists
namespace Go.Proofs.YtecmghoklleheaaDoor
open Go.RowKit Go.ChangeShapes Go.WideShapes Go.ChangeAt

theorem takeFirstL_none {l : List Lot} {d q : Int} (h : (lotsOk l && inR q 0 50) = false) : takeFirstL l d q = [] := by
  unfold takeFirstL
  rw [if_neg (by rw [h]; decide)]

set_option maxRecDepth 100000 in
set_option maxHeartbeats 4000000 in
theorem lawTakeFirst_any (A : Option Addr) (c m : Nat) (w : World) (hB : BytesIn w A m) (hc : m ≤ c) (hc2 : c ≤ 9223372036854775807) :
    Calls Tryd.prog 8 #[.slice A m c] w fun e w' => e = .returned (.bool true) ∧ Below w.heap.size w w' := by
  by_cases hlen : (1048576 : Int) < m
  · go_enter Tryd.func8, Tryd.ntmps8
    go_wp2_with fail
    go_ret
    exact ⟨rfl, by go_grown⟩
  · go_enter Tryd.func8, Tryd.ntmps8
    go_wp2_with fail
    refine (drawTakeFirst_any A c m w hB (by omega) hc hc2).mono ?_
    rintro e w1 ⟨ls, g, c1, d, q, rfl, hS, hl, hd0, hd1, hq0, hq1, hb1⟩
    have hl' : ls.length ≤ 1048576 := by omega
    have HI := hide hS.lots
    clear hS
    obtain ⟨T, HTK⟩ : ∃ T, Hid (takeFirstL ls d q = T) := ⟨_, hide rfl⟩
    have hTl : T.length ≤ 1048576 := by
      rw [← HTK.out]
      exact Nat.le_trans (takeFirstL_len _ _ _) hl'
    cases hok : lotsOk ls with
    | false =>
      have HOK := hide hok
      have hT0 : T = [] := by rw [← HTK.out]; exact takeFirstL_none (by rw [hok]; rfl)
      subst hT0
      clear hok
      go_wp2_with fail
      refine (implTakeFirst_any _ _ _ _ _ _ HI.out hl').mono ?_
      rintro e w2 ⟨v, rfl, hv, hB2⟩
      rw [HTK.out] at hv
      obtain ⟨A2, k2, rfl, hI2, -⟩ := hv.form
      have hb2 := next hb1 hB2
      have HI2 := hide (HI.out.below hB2)
      have HT2 := hide hI2
      clear hB2 hv hI2
      go_wp2_with fail
      refine (specTakeFirst_any _ _ _ _ _ _ HI2.out hl').mono ?_
      rintro e w3 ⟨v, rfl, hv, hB3⟩
      rw [HTK.out] at hv
      obtain ⟨A3, k3, rfl, hI3, -⟩ := hv.form
      have hb3 := next hb2 hB3
      have HI3 := hide (HI2.out.below hB3)
      have HT3 := hide (HT2.out.below hB3)
      have HU3 := hide hI3
      clear hB3 hv hI3
      go_wp2_with fail
      refine (sameInts_same _ _ _ _ _ _ HT3.out HU3.out hTl).mono ?_
      rintro e w4 ⟨rfl, hB4⟩
      have hb4 := next hb3 hB4
      have HI4 := hide (HI3.out.below hB4)
      have HT4 := hide (HT3.out.below hB4)
      clear hB4
      go_wp2_with fail
      refine (specLotsValid_any _ _ _ _ HI4.out hl').mono ?_
      rintro e w5 ⟨rfl, hB5⟩
      have hb5 := next hb4 hB5
      have HI5 := hide (HI4.out.below hB5)
      have HT5 := hide (HT4.out.below hB5)
      rw [HOK.out]
      clear hB5
      go_wp2_with fail
      refine (alive_any _).mono ?_
      rintro e w6 ⟨rfl, hB6⟩
      go_wp2_with fail
      go_ret
      exact ⟨rfl, next hb5 hB6⟩
    | true =>
      have HOK := hide hok
      by_cases hlo : q < 0
      · have hT0 : T = [] := by
          rw [← HTK.out]
          refine takeFirstL_none ?_
          cases e : inR q 0 50 with
          | false => rw [Bool.and_false]
          | true => exact absurd (inR_iff.1 e).1 (by omega)
        subst hT0
        clear hok
        go_wp2_with fail
        refine (implTakeFirst_any _ _ _ _ _ _ HI.out hl').mono ?_
        rintro e w2 ⟨v, rfl, hv, hB2⟩
        rw [HTK.out] at hv
        obtain ⟨A2, k2, rfl, hI2, -⟩ := hv.form
        have hb2 := next hb1 hB2
        have HI2 := hide (HI.out.below hB2)
        have HT2 := hide hI2
        clear hB2 hv hI2
        go_wp2_with fail
        refine (specTakeFirst_any _ _ _ _ _ _ HI2.out hl').mono ?_
        rintro e w3 ⟨v, rfl, hv, hB3⟩
        rw [HTK.out] at hv
        obtain ⟨A3, k3, rfl, hI3, -⟩ := hv.form
        have hb3 := next hb2 hB3
        have HI3 := hide (HI2.out.below hB3)
        have HT3 := hide (HT2.out.below hB3)
        have HU3 := hide hI3
        clear hB3 hv hI3
        go_wp2_with fail
        refine (sameInts_same _ _ _ _ _ _ HT3.out HU3.out hTl).mono ?_
        rintro e w4 ⟨rfl, hB4⟩
        have hb4 := next hb3 hB4
        have HI4 := hide (HI3.out.below hB4)
        have HT4 := hide (HT3.out.below hB4)
        clear hB4
        go_wp2_with fail
        refine (specLotsValid_any _ _ _ _ HI4.out hl').mono ?_
        rintro e w5 ⟨rfl, hB5⟩
        have hb5 := next hb4 hB5
        have HI5 := hide (HI4.out.below hB5)
        have HT5 := hide (HT4.out.below hB5)
        rw [HOK.out]
        clear hB5
        go_wp2_with fail
        refine (alive_any _).mono ?_
        rintro e w6 ⟨rfl, hB6⟩
        go_wp2_with fail
        go_ret
        exact ⟨rfl, next hb5 hB6⟩
      · by_cases hhi : 50 < q
        · have hT0 : T = [] := by
            rw [← HTK.out]
            refine takeFirstL_none ?_
            cases e : inR q 0 50 with
            | false => rw [Bool.and_false]
            | true => exact absurd (inR_iff.1 e).2 (by omega)
          subst hT0
          clear hok
          go_wp2_with fail
          refine (implTakeFirst_any _ _ _ _ _ _ HI.out hl').mono ?_
          rintro e w2 ⟨v, rfl, hv, hB2⟩
          rw [HTK.out] at hv
          obtain ⟨A2, k2, rfl, hI2, -⟩ := hv.form
          have hb2 := next hb1 hB2
          have HI2 := hide (HI.out.below hB2)
          have HT2 := hide hI2
          clear hB2 hv hI2
          go_wp2_with fail
          refine (specTakeFirst_any _ _ _ _ _ _ HI2.out hl').mono ?_
          rintro e w3 ⟨v, rfl, hv, hB3⟩
          rw [HTK.out] at hv
          obtain ⟨A3, k3, rfl, hI3, -⟩ := hv.form
          have hb3 := next hb2 hB3
          have HI3 := hide (HI2.out.below hB3)
          have HT3 := hide (HT2.out.below hB3)
          have HU3 := hide hI3
          clear hB3 hv hI3
          go_wp2_with fail
          refine (sameInts_same _ _ _ _ _ _ HT3.out HU3.out hTl).mono ?_
          rintro e w4 ⟨rfl, hB4⟩
          have hb4 := next hb3 hB4
          have HI4 := hide (HI3.out.below hB4)
          have HT4 := hide (HT3.out.below hB4)
          clear hB4
          go_wp2_with fail
          refine (specLotsValid_any _ _ _ _ HI4.out hl').mono ?_
          rintro e w5 ⟨rfl, hB5⟩
          have hb5 := next hb4 hB5
          have HI5 := hide (HI4.out.below hB5)
          have HT5 := hide (HT4.out.below hB5)
          rw [HOK.out]
          clear hB5
          go_wp2_with fail
          refine (alive_any _).mono ?_
          rintro e w6 ⟨rfl, hB6⟩
          go_wp2_with fail
          go_ret
          exact ⟨rfl, next hb5 hB6⟩
        · have hqr : inR q 0 50 = true := inR_iff.2 (by omega)
          have hTI : T = tab ls.length (tfL ls d q 6).1 := by rw [← HTK.out]; exact takeFirst_is hok hqr
          have hTn : T.length = ls.length := by rw [hTI, tab_len]
          have HTN := hide hTn
          have hT1 : T.length ≤ ls.length := by omega
          have hT2 : ls.length ≤ T.length := by omega
          have HTA : Hid (∀ (k : Nat) (x : Int), T[k]? = some x → x = (tfL ls d q 6).1 k) := hide (fun k x hx => by
            have hk : k < ls.length := by
              rcases Nat.lt_or_ge k ls.length with a | a
              · exact a
              · rw [List.getElem?_eq_none (by omega)] at hx
                cases hx
            rw [hTI, tab_at hk] at hx
            exact (Option.some.inj hx).symm)
          have HGR : Hid (∀ (a b : Nat) (pa pb : Lot) (ta tb : Int), ls[a]? = some pa → ls[b]? = some pb → T[a]? = some ta → T[b]? = some tb → 0 < ta → pb.last < pa.last → d ≤ pb.last → ¬ tb < pb.many) := hide (fun a b pa pb ta tb e1 e2 e3 e4 h1 h2 h3 => by
            have hb : b < ls.length := by
              rcases Nat.lt_or_ge b ls.length with a | a
              · exact a
              · rw [List.getElem?_eq_none a] at e2
                cases e2
            have x1 := HTA.out a ta e3
            have x2 := HTA.out b tb e4
            have gr := tf_greedy (day := d) (q := q) (a := a) hok (by omega) (by omega) hb (by rw [← x1]; exact h1) (by rw [getD_some e1, getD_some e2]; exact h2)
            rw [getD_some e2, ← x2] at gr
            have hu : usab pb d = pb.many := by unfold usab; rw [if_neg (by omega)]
            omega)
          have HKO : Hid (takeOkL ls d T = true) := hide (by rw [← HTK.out]; exact (takeFirst_ok hok hqr).1)
          obtain ⟨u, HU⟩ : ∃ u, Hid (unitsL ls d = u) := ⟨_, hide rfl⟩
          obtain ⟨mn, hmn⟩ : ∃ mn, min q u = mn := ⟨_, rfl⟩
          have HSM : Hid (sumW T = mn) := hide (by
            rw [← hmn, ← HU.out, ← takeFirst_sum hok hqr, ← HTK.out]
            exact sumW_plain takeFirstL_entries (by omega) (by have := takeFirstL_len ls d q; omega))
          have hmm : (mn == mn) = true := by simp
          clear hok hTI hTn hqr
          go_wp2_with fail
          refine (implTakeFirst_any _ _ _ _ _ _ HI.out hl').mono ?_
          rintro e w2 ⟨v, rfl, hv, hB2⟩
          rw [HTK.out] at hv
          obtain ⟨A2, k2, rfl, hI2, -⟩ := hv.form
          have hb2 := next hb1 hB2
          have HI2 := hide (HI.out.below hB2)
          have HT2 := hide hI2
          clear hB2 hv hI2
          go_wp2_with fail
          refine (specTakeFirst_any _ _ _ _ _ _ HI2.out hl').mono ?_
          rintro e w3 ⟨v, rfl, hv, hB3⟩
          rw [HTK.out] at hv
          obtain ⟨A3, k3, rfl, hI3, -⟩ := hv.form
          have hb3 := next hb2 hB3
          have HI3 := hide (HI2.out.below hB3)
          have HT3 := hide (HT2.out.below hB3)
          have HU3 := hide hI3
          clear hB3 hv hI3
          go_wp2_with fail
          refine (sameInts_same _ _ _ _ _ _ HT3.out HU3.out hTl).mono ?_
          rintro e w4 ⟨rfl, hB4⟩
          have hb4 := next hb3 hB4
          have HI4 := hide (HI3.out.below hB4)
          have HT4 := hide (HT3.out.below hB4)
          clear hB4
          go_wp2_with fail
          refine (specLotsValid_any _ _ _ _ HI4.out hl').mono ?_
          rintro e w5 ⟨rfl, hB5⟩
          have hb5 := next hb4 hB5
          have HI5 := hide (HI4.out.below hB5)
          have HT5 := hide (HT4.out.below hB5)
          rw [HOK.out]
          clear hB5
          go_wp2_with fail
          go_loopw [7] (fun i wr => ∃ x : Nat, x ≤ ls.length ∧ i = .int .i64 x ∧ Below w5.heap.size w5 wr) (fun i _ => ls.length - (intOf i).toNat)
          case atStart => exact ⟨0, Nat.zero_le _, rfl, Below.refl _ _⟩
          case round =>
            obtain ⟨x, hx, rfl, hQ0⟩ := hrel
            by_cases hlt : x < ls.length
            · obtain ⟨pa, hPA⟩ : ∃ p, ls[x]? = some p := ⟨_, List.getElem?_eq_getElem hlt⟩
              obtain ⟨ta, hTA⟩ : ∃ p, T[x]? = some p := ⟨_, List.getElem?_eq_getElem (by omega)⟩
              have HPA := hide hPA
              have HTX := hide hTA
              have hz : (0 : Int) ≤ x := by omega
              have hz2 : (x : Int) < ls.length := by omega
              have hz3 : (x : Int) < T.length := by omega
              clear hPA hTA
              go_wp2_with fail
              go_loopw [8] (fun i wr => ∃ y : Nat, y ≤ ls.length ∧ i = .int .i64 y ∧ Below w5.heap.size w5 wr) (fun i _ => ls.length - (intOf i).toNat)
              case atStart => exact ⟨0, Nat.zero_le _, rfl, hQ0⟩
              case round =>
                obtain ⟨y, hy, rfl, hQ⟩ := hrel
                by_cases hy2 : y < ls.length
                · obtain ⟨pb, hPB⟩ : ∃ p, ls[y]? = some p := ⟨_, List.getElem?_eq_getElem hy2⟩
                  obtain ⟨tb, hTB⟩ : ∃ p, T[y]? = some p := ⟨_, List.getElem?_eq_getElem (by omega)⟩
                  obtain ⟨b1, o1, e1, hbl1, hc1, hc3⟩ := (HI5.out.below hQ) x pa HPA.out
                  injection e1 with e1
                  injection e1 with e11 e12
                  subst e11 e12
                  obtain ⟨b2, o2, e2, hbl2, hd1, hd3⟩ := (HI5.out.below hQ) y pb hPB
                  injection e2 with e2
                  injection e2 with e21 e22
                  subst e21 e22
                  rw [Nat.zero_add] at hc1 hc3 hd1 hd3
                  obtain ⟨b3, o3, e3, hbl3, hf1⟩ := (HT5.out.below hQ) x ta HTX.out
                  subst e3
                  obtain ⟨b4, o4, e4, hbl4, hf2⟩ := (HT5.out.below hQ) y tb hTB
                  injection e4 with e4
                  injection e4 with e41 e42
                  subst e41 e42
                  have hgr := HGR.out x y pa pb ta tb HPA.out hPB HTX.out hTB
                  have hy3 : (0 : Int) ≤ y := by omega
                  have hy4 : (y : Int) < ls.length := by omega
                  have hy5 : (y : Int) < T.length := by omega
                  clear hPB hTB
                  by_cases k1 : 0 < ta
                  · have d1 : decide (ta > 0) = true := decide_eq_true k1
                    by_cases k2 : pb.last < pa.last
                    · have d2 : decide (pb.last < pa.last) = true := decide_eq_true k2
                      by_cases k3 : d ≤ pb.last
                      · have d3 : decide (pb.last ≥ d) = true := decide_eq_true k3
                        have d4 : decide (tb < pb.many) = false := decide_eq_false (by have := hgr k1 k2 k3; omega)
                        clear hgr
                        go_wp2_with fail
                        go_quiet (fail)
                        go_wp2_with fail
                        go_roundw
                        case rel => exact ⟨y + 1, hy2, by go_num, below_drewN hQ _⟩
                        case measure => simp [intOf]; omega
                      · have d3 : decide (pb.last ≥ d) = false := decide_eq_false k3
                        clear hgr
                        go_wp2_with fail
                        go_quiet (fail)
                        go_wp2_with fail
                        go_roundw
                        case rel => exact ⟨y + 1, hy2, by go_num, below_drewN hQ _⟩
                        case measure => simp [intOf]; omega
                    · have d2 : decide (pb.last < pa.last) = false := decide_eq_false k2
                      clear hgr
                      go_wp2_with fail
                      go_quiet (fail)
                      go_wp2_with fail
                      go_roundw
                      case rel => exact ⟨y + 1, hy2, by go_num, below_drewN hQ _⟩
                      case measure => simp [intOf]; omega
                  · have d1 : decide (ta > 0) = false := decide_eq_false k1
                    clear hgr
                    go_wp2_with fail
                    go_quiet (fail)
                    go_wp2_with fail
                    go_roundw
                    case rel => exact ⟨y + 1, hy2, by go_num, below_drewN hQ _⟩
                    case measure => simp [intOf]; omega
                · go_wp2_with fail
                  go_roundw
                  case rel => exact ⟨x + 1, hlt, by go_num, hQ⟩
                  case measure => simp [intOf]; omega
            · have hb6 := next hb5 hQ0
              have HI6 := hide (HI5.out.below hQ0)
              have HT6 := hide (HT5.out.below hQ0)
              go_wp2_with fail
              refine (implTakeOk_any _ _ _ _ _ _ _ _ HI6.out hl' HT6.out hTl).mono ?_
              rintro e w7 ⟨rfl, hB7⟩
              have hb7 := next hb6 hB7
              have HI7 := hide (HI6.out.below hB7)
              have HT7 := hide (HT6.out.below hB7)
              rw [HKO.out]
              clear hB7
              go_wp2_with fail
              refine (lawSum_any _ _ _ _ HT7.out hTl).mono ?_
              rintro e w8 ⟨rfl, rfl⟩
              rw [HSM.out]
              go_wp2_with fail
              refine (implLotsAt_any _ _ _ _ _ HI7.out hl').mono ?_
              rintro e w9 ⟨rfl, hB9⟩
              have hb9 := next hb7 hB9
              rw [HU.out]
              clear hB9
              go_wp2_with fail
              go_ret
              exact ⟨rfl, hb9⟩
end Go.Proofs.YtecmghoklleheaaDoor
