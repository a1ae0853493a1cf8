/- For all drawn bytes the law of WorkRun answers true, and its argument reads as it did.
   Conditions: the two tables hold what the source says. -/
import Derived.Test.YthmpopdoihlfdaaDoorDrawRun
import Derived.Test.YthmpopdoihlfdaaDoorRunMath
import Derived.Test.YthmpopdoihlfdaaDoorAlive
import Derived.Test.YthmpopdoihlfdaaDoorTick3
import Derived.Test.YthmpopdoihlfdaaDoorSame2
namespace Go.Proofs.YthmpopdoihlfdaaDoor
open Go.RowKit Go.ChangeShapes Go.WideShapes Go.ChangeAt Go.Deep

theorem rowR {l : List (List Order)} {k : Nat} (h : k < l.length) : ∃ x, l[k]? = some x ∧ l.getD k [] = x := ⟨l[k], List.getElem?_eq_getElem h, by rw [List.getD_eq_getElem?_getD, List.getElem?_eq_getElem h]; rfl⟩
theorem ordR {l : List Order} {k : Nat} (h : k < l.length) : ∃ x, l[k]? = some x ∧ l.getD k ⟨0, 0⟩ = x := ⟨l[k], List.getElem?_eq_getElem h, by rw [List.getD_eq_getElem?_getD, List.getElem?_eq_getElem h]; rfl⟩

set_option maxRecDepth 100000 in
set_option maxHeartbeats 8000000 in
theorem lawWorkRun_any (A : Option Addr) (c m : Nat) (w : World) (hB : BytesIn w A m) (hc : m ≤ c) (hc2 : c ≤ 9223372036854775807) (hTP : PiecesAt w) (hTN : NextAt w) :
    Calls Tryd.prog 13 #[.slice A m c] w fun e w' => e = .returned (.bool true) ∧ Below w.heap.size w w' := by
  by_cases hlen : (1048576 : Int) < m
  · go_enter Tryd.func13, Tryd.ntmps13
    go_wp2_with fail
    go_ret
    exact ⟨rfl, by go_grown⟩
  · go_enter Tryd.func13, Tryd.ntmps13
    go_wp2_with fail
    refine (drawWorkRun_any A c m w hB (by omega) hc hc2).mono ?_
    rintro e w1 ⟨l, G, d, most, rfl, hS, h5, hx7, hb1, hm0, hm1⟩
    have HT1 := hide hS.rows
    have hll : l.length ≤ 1048576 := by omega
    have HX : Hid (∀ x ∈ l, x.length ≤ 1048576) := hide (fun x hx => by have := hx7 x hx; omega)
    clear hS hx7
    have HTP1 := hide (hTP.below hb1)
    have HTN1 := hide (hTN.below hb1)
    obtain ⟨hxl, hxx⟩ := runL_rows l most
    obtain ⟨x, HXD⟩ : ∃ x, Hid ((workRunL l most).1 = x) := ⟨_, hide rfl⟩
    obtain ⟨n, HND⟩ : ∃ n, Hid ((workRunL l most).2 = n) := ⟨_, hide rfl⟩
    rw [HXD.out] at hxl hxx
    have HXX := hide hxx
    have hnn : (n != n) = false := by simp
    clear hxx
    go_wp2_with fail
    refine (implWorkRun_any _ _ _ _ _ HT1.out hll HX.out HTP1.out HTN1.out).mono ?_
    rintro e w2 ⟨u, rfl, hU, hB2⟩
    rw [HXD.out] at hU
    rw [HND.out]
    obtain ⟨A2, c2, rfl, hR2⟩ := hU.form
    have hb2 := next hb1 hB2
    have HT2 := hide (HT1.out.below hB2)
    have HR2 := hide hR2
    clear hU hR2
    go_wp2_with fail
    refine (specWorkRun_any _ _ _ _ _ HT2.out hll HX.out).mono ?_
    rintro e w3 ⟨u, rfl, hU, hB3⟩
    rw [HXD.out] at hU
    rw [HND.out]
    obtain ⟨A3, c3, rfl, hR3⟩ := hU.form
    have hb3 := next hb2 hB3
    have HT3 := hide (HT2.out.below hB3)
    have HR23 := hide (HR2.out.below hB3)
    have HR3 := hide hR3
    clear hU hR3 hB2 hB3 HT1 HT2 HR2
    go_wp2_with fail
    refine (sameKitchen_same _ _ _ _ _ _ HR23.out HR3.out hxl HXX.out).mono ?_
    rintro e w4 ⟨rfl, hB4⟩
    have hb4 := next hb3 hB4
    have HT4 := hide (HT3.out.below hB4)
    have HR4 := hide (HR23.out.below hB4)
    clear hB4 HT3 HR3 HR23
    by_cases hgood : kitchenOkL l = true ∧ 0 ≤ most ∧ most ≤ 99
    · obtain ⟨hv, hp0, hp99⟩ := hgood
      have HV := hide hv
      obtain ⟨q, HQ⟩ : ∃ q, Hid (leftK l = q) := ⟨_, hide rfl⟩
      have HL : Hid (workLeftL l = q) := hide (by unfold workLeftL; rw [if_pos hv, HQ.out])
      have hnq : (n != min most q) = false := by rw [← HND.out, runL_many hv hp0 hp99, HQ.out]; simp
      have hqq : (q != q) = false := by simp
      obtain ⟨hE2, hEl, hEk⟩ := runL_all hv
      obtain ⟨hel, hee⟩ := runL_rows l 99
      obtain ⟨E, HE⟩ : ∃ E, Hid ((workRunL l 99).1 = E) := ⟨_, hide rfl⟩
      have HE2 : Hid ((workRunL l 99).2 = q) := hide (hE2.trans HQ.out)
      rw [HE.out] at hEl hEk hel hee
      have HEK := hide hEk
      have HEE := hide hee
      have HEL := hide hEl
      have hlen2 : ((E.length : Int) != (l.length : Int)) = false := by rw [hEl]; simp
      have hml0 : 0 ≤ most / 2 := by omega
      have hml1 : most / 2 ≤ 49 := by omega
      obtain ⟨hhl, hhx⟩ := runL_rows l (most / 2)
      have hrest := runL_two hv hp0 hp99
      obtain ⟨H, HH⟩ : ∃ H, Hid ((workRunL l (most / 2)).1 = H) := ⟨_, hide rfl⟩
      obtain ⟨n2, HN2⟩ : ∃ n2, Hid ((workRunL l (most / 2)).2 = n2) := ⟨_, hide rfl⟩
      rw [HH.out] at hhl hhx hrest
      rw [HXD.out] at hrest
      have HREST := hide hrest
      have HHX := hide hhx
      obtain ⟨n3, HN3⟩ : ∃ n3, Hid ((workRunL H (most - most / 2)).2 = n3) := ⟨_, hide rfl⟩
      clear hv hE2 hEl hEk hee hrest hhx
      go_wp2_with fail
      refine (specKitchenValid_any _ _ _ _ HT4.out hll HX.out).mono ?_
      rintro e w5 ⟨rfl, hB5⟩
      rw [HV.out]
      have hb5 := next hb4 hB5
      have HT5 := hide (HT4.out.below hB5)
      have HR5 := hide (HR4.out.below hB5)
      have HTP5 := hide (hTP.below hb5)
      go_wp2_with fail
      refine (implWorkLeft_any _ _ _ _ HT5.out hll HX.out HTP5.out).mono ?_
      rintro e w6 ⟨rfl, hB6⟩
      rw [HL.out]
      have hb6 := next hb5 hB6
      have HT6 := hide (HT5.out.below hB6)
      have HR6 := hide (HR5.out.below hB6)
      have HTP6 := hide (hTP.below hb6)
      have HTN6 := hide (hTN.below hb6)
      go_wp2_with fail
      refine (implWorkRun_any _ _ l 99 _ HT6.out hll HX.out HTP6.out HTN6.out).mono ?_
      rintro e w7 ⟨u, rfl, hU, hB7⟩
      rw [HE.out] at hU
      rw [HE2.out]
      obtain ⟨AE, cE, rfl, hRE⟩ := hU.form
      have hb7 := next hb6 hB7
      have HT7 := hide (HT6.out.below hB7)
      have HR7 := hide (HR6.out.below hB7)
      have HE7 := hide hRE
      clear hU hRE hB5 hB6 hB7 HT4 HR4 HT5 HR5 HT6 HR6 HTP5 HTP6 HTN6
      go_wp2_with fail
      go_loopw [12] (fun iv wr => ∃ k : Nat, k ≤ E.length ∧ iv = .int .i64 k ∧ Below w7.heap.size w7 wr) (fun iv _ => E.length - (intOf iv).toNat)
      case atStart => exact ⟨0, Nat.zero_le _, rfl, Below.refl _ _⟩
      case round =>
        obtain ⟨k, hk, rfl, hd⟩ := hrel
        have hb := next hb7 hd
        have hsz := hd.size
        have HTP8 := hide (hTP.below hb)
        have HTP8d := hide (hTP.below hb.drew)
        by_cases hlt : k < E.length
        · have hlt2 : k < l.length := by rw [← HEL.out]; exact hlt
          obtain ⟨ek, hek, gek⟩ := rowR hlt
          obtain ⟨ok, hok, gok⟩ := rowR hlt2
          obtain ⟨hdone, hlike⟩ := HEK.out k hlt2
          rw [gek] at hdone hlike
          rw [gok] at hlike
          have HDN := hide hdone
          have HST := hide hlike.2
          have hlk : ek.length = ok.length := hlike.1
          have hekl : ek.length ≤ 1048576 := HEE.out _ (List.mem_of_getElem? hek)
          have HEk := hide hek
          have HOk := hide hok
          have HLK := hide hlk
          obtain ⟨b, off, A', c', rfl, hbl, hc1, hI⟩ := (HE7.out.below hd) k ek hek
          obtain ⟨b', off', A'', c'', hG, hbl2, hc3, hI2⟩ := (HT7.out.below hd) k ok hok
          injection hG with hG
          injection hG with e1 e2
          subst e1 e2
          rw [Nat.zero_add] at hc3
          have hz : (0 : Int) ≤ k := by omega
          have hz2 : (k : Int) < E.length := by omega
          have hz3 : (k : Int) < l.length := by omega
          have hlk2 : ((ek.length : Int) != (ok.length : Int)) = false := by rw [hlk]; simp
          have HD : Hid (Calls Tryd.prog 22 #[.slice A' ek.length c'] wr.drew fun e w' => e = .returned (.bool true) ∧ Below wr.drew.heap.size wr.drew w') := hide (by
            have := implTicketDone_any A' c' ek wr.drew hI hekl HTP8d.out
            rwa [HDN.out] at this)
          clear hek hok gek gok hdone hlike hlk hI hI2
          go_wp2_with fail
          go_region_held3 (fun W => W.cell? ⟨b, off + k, none⟩ = some (.slice A' ek.length c') ∧ W.cell? ⟨G, k, none⟩ = some (.slice A'' ok.length c''))
            (first | exact ⟨hc1, hc3⟩ | exact ⟨(hB9.cell hbl).trans hc1, (hB9.cell hbl2).trans hc3⟩)
            (first | (go_at_call 22; refine HD.out.mono ?_; rintro e W9 ⟨rfl, hB9⟩))
          have hd9 := next hd.drew hB9
          clear hc1 hc3
          go_wp2_with fail
          go_loopw [13] (fun jv wr2 => ∃ j : Nat, j ≤ ek.length ∧ jv = .int .i64 j ∧ Below w7.heap.size w7 wr2) (fun jv _ => ek.length - (intOf jv).toNat)
          case atStart => exact ⟨0, Nat.zero_le _, rfl, hd9⟩
          case round =>
            obtain ⟨j, hj, rfl, hd2⟩ := hrel
            have hsz2 := hd2.size
            obtain ⟨b', off', A1, c1, hG, hbl3, hc1, hI⟩ := (HE7.out.below hd2) k ek HEk.out
            injection hG with hG
            injection hG with e1 e2
            subst e1 e2
            obtain ⟨b', off', A4, c4, hG, hbl4, hc3, hI2⟩ := (HT7.out.below hd2) k ok HOk.out
            injection hG with hG
            injection hG with e1 e2
            subst e1 e2
            rw [Nat.zero_add] at hc3
            by_cases hjlt : j < ek.length
            · obtain ⟨p, hp, gp⟩ := ordR hjlt
              obtain ⟨r, hr, gr⟩ := ordR (show j < ok.length by rw [← HLK.out]; exact hjlt)
              have hst := HST.out j (by rw [← HLK.out]; exact hjlt)
              rw [gp, gr] at hst
              obtain ⟨b5, off5, rfl, hbl5, hp1, hp2⟩ := hI j p hp
              obtain ⟨b6, off6, rfl, hbl6, hr1, hr2⟩ := hI2 j r hr
              have hy : (0 : Int) ≤ j := by omega
              have hy2 : (j : Int) < ek.length := by omega
              have hy3 : (j : Int) < ok.length := by rw [← HLK.out]; omega
              clear hp hr gp gr
              by_cases h4 : r.state = 4
              · have g1 : (p.state == 4) = true := by rw [hst.2 h4]; rfl
                have g2 : (r.state == 4) = true := by rw [h4]; rfl
                clear hst h4
                go_wp2_with fail
                go_quiet (fail)
                go_wp2_with fail
                go_roundw
                case rel => exact ⟨j + 1, hjlt, by go_num, below_drewN hd2 _⟩
                case measure => simp [intOf]; omega
              · have g1 : (p.state == 4) = false := beq_false_of_ne (fun h => h4 (hst.1 h))
                have g2 : (r.state == 4) = false := beq_false_of_ne h4
                clear hst h4
                go_wp2_with fail
                go_quiet (fail)
                go_wp2_with fail
                go_roundw
                case rel => exact ⟨j + 1, hjlt, by go_num, below_drewN hd2 _⟩
                case measure => simp [intOf]; omega
            · have hy2 : ¬ (j : Int) < ek.length := by omega
              go_wp2_with fail
              go_roundw
              case rel => exact ⟨k + 1, hlt, by go_num, hd2⟩
              case measure => simp [intOf]; omega
        · have hz2 : ¬ (k : Int) < E.length := by omega
          have HT8 := hide (HT7.out.below hd)
          have HR8 := hide (HR7.out.below hd)
          have HTN8 := hide (hTN.below hb)
          go_wp2_with fail
          refine (implWorkRun_any _ _ l (most / 2) _ HT8.out hll HX.out HTP8.out HTN8.out).mono ?_
          rintro e w9 ⟨u, rfl, hU, hB9⟩
          rw [HH.out] at hU
          rw [HN2.out]
          obtain ⟨AH, cH, rfl, hRH⟩ := hU.form
          have hb9 := next hb hB9
          have HH9 := hide hRH
          have HR9 := hide (HR8.out.below hB9)
          have HTP9 := hide (hTP.below hb9)
          have HTN9 := hide (hTN.below hb9)
          clear hU hRH
          go_wp2_with fail
          refine (implWorkRun_any _ _ H (most - most / 2) _ HH9.out hhl HHX.out HTP9.out HTN9.out).mono ?_
          rintro e w10 ⟨u, rfl, hU, hB10⟩
          rw [HREST.out] at hU
          rw [HN3.out]
          obtain ⟨AR, cR, rfl, hRR⟩ := hU.form
          have hb10 := next hb9 hB10
          have HRR := hide hRR
          have HR10 := hide (HR9.out.below hB10)
          clear hU hRR
          go_wp2_with fail
          refine (sameKitchen_same _ _ _ _ _ _ HRR.out HR10.out hxl HXX.out).mono ?_
          rintro e w11 ⟨rfl, hB11⟩
          have hb11 := next hb10 hB11
          go_wp2_with fail
          go_ret
          exact ⟨rfl, hb11⟩
    · have hbad := runL_bad hgood
      obtain rfl : x = [] := by rw [← HXD.out, hbad]
      obtain rfl : n = 0 := by rw [← HND.out, hbad]
      clear hbad
      simp only [List.length_nil]
      cases hv : kitchenOkL l with
      | false =>
        have HV := hide hv
        clear hv hgood
        go_wp2_with fail
        refine (specKitchenValid_any _ _ _ _ HT4.out hll HX.out).mono ?_
        rintro e w5 ⟨rfl, hB5⟩
        rw [HV.out]
        have hb5 := next hb4 hB5
        go_wp2_with fail
        refine (alive_any _).mono ?_
        rintro e w6 ⟨rfl, hB6⟩
        have hb6 := next hb5 hB6
        go_wp2_with fail
        go_ret
        exact ⟨rfl, hb6⟩
      | true =>
        have HV := hide hv
        by_cases h0 : most < 0
        · clear hv hgood
          go_wp2_with fail
          refine (specKitchenValid_any _ _ _ _ HT4.out hll HX.out).mono ?_
          rintro e w5 ⟨rfl, hB5⟩
          rw [HV.out]
          have hb5 := next hb4 hB5
          go_wp2_with fail
          refine (alive_any _).mono ?_
          rintro e w6 ⟨rfl, hB6⟩
          have hb6 := next hb5 hB6
          go_wp2_with fail
          go_ret
          exact ⟨rfl, hb6⟩
        · have h99 : (99 : Int) < most := by
            rcases Int.lt_or_le 99 most with h | h
            · exact h
            · exact absurd ⟨hv, by omega, h⟩ hgood
          clear hv hgood
          go_wp2_with fail
          refine (specKitchenValid_any _ _ _ _ HT4.out hll HX.out).mono ?_
          rintro e w5 ⟨rfl, hB5⟩
          rw [HV.out]
          have hb5 := next hb4 hB5
          go_wp2_with fail
          refine (alive_any _).mono ?_
          rintro e w6 ⟨rfl, hB6⟩
          have hb6 := next hb5 hB6
          go_wp2_with fail
          go_ret
          exact ⟨rfl, hb6⟩
end Go.Proofs.YthmpopdoihlfdaaDoor
