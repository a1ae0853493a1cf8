/- For all drawn bytes the law of MakeRun answers true, and its arguments read as they did.
   Conditions: none. -/
import Derived.Test.YtgpcbigaeodhfaaDoorLawKit
import Derived.Test.YtgpcbigaeodhfaaDoorDrawMR
import Derived.Test.YtgpcbigaeodhfaaDoorDrawPL
import Derived.Test.YtgpcbigaeodhfaaDoorMakeRunS
import Derived.Test.YtgpcbigaeodhfaaDoorMakeMath2
import Derived.Test.YtgpcbigaeodhfaaDoorLists
namespace Go.Proofs.YtgpcbigaeodhfaaDoor
open Go.RowKit Go.ChangeShapes Go.WideShapes Go.ChangeAt Go.Deep

theorem bytes_below {w w' : World} {A : Option Addr} {m : Nat} (h : BytesIn w A m) (hb : Below w.heap.size w w') : BytesIn w' A m := fun i hi => by
  obtain ⟨ab, off, v, e, hlt, h5, h6, h7⟩ := h i hi
  exact ⟨ab, off, v, e, Nat.lt_of_lt_of_le hlt hb.size, h5, h6, (hb.cell hlt).trans h7⟩

/-- What stands behind the check of the least plan: true for all drawn bytes. -/
theorem madeRun_form {l : List Item} {stock rs : List Int} {w w' : World} {e : Ending} (h : MadeRun l stock rs w e w') : ∃ A c, e = .returned (.tuple #[.slice A ((makeRunL l stock rs).getD []).length c, .bool (makeRunL l stock rs).isSome]) ∧ IntsAt w' A ((makeRunL l stock rs).getD []) ∧ Below w.heap.size w w' := by
  obtain ⟨v, rfl, hS, hB⟩ := h
  obtain ⟨A, c, rfl, hI, -⟩ := hS.form
  exact ⟨A, c, rfl, hI, hB⟩

set_option maxRecDepth 100000 in
set_option maxHeartbeats 8000000 in
theorem lawMakeRun_any (A B : Option Addr) (c d m n : Nat) (w : World) (hA : BytesIn w A m) (hc : m ≤ c) (hc2 : c ≤ 9223372036854775807) (hB : BytesIn w B n) (hd : n ≤ d) (hd2 : d ≤ 9223372036854775807) :
    Calls Tryd.prog 4 #[.slice A m c, .slice B n d] w fun e w' => e = .returned (.bool true) ∧ Below w.heap.size w w' := by
  by_cases hlen : (1048576 : Int) < m
  · go_enter Tryd.func4, Tryd.ntmps4
    go_wp2_with fail
    go_ret
    exact ⟨rfl, by go_grown⟩
  · by_cases hlen2 : (1048576 : Int) < n
    · go_enter Tryd.func4, Tryd.ntmps4
      go_wp2_with fail
      go_ret
      exact ⟨rfl, by go_grown⟩
    · go_enter Tryd.func4, Tryd.ntmps4
      go_wp2_with fail
      refine (drawMakeRun_any A c m w hA (by omega) hc hc2).mono ?_
      rintro e w1 ⟨l, A1, c1, stock, rs, g2, c2, d1, n1, e1, V1, U1, rfl, hI, hl, hp, hX, hxl, hV, hvl, hb1⟩
      have hl' : l.length ≤ 1048576 := by omega
      have hx' : stock.length ≤ 1048576 := by omega
      have hv' : rs.length ≤ 1048576 := by omega
      have HP : Hid (∀ x ∈ l, x.parts.length ≤ 1048576) := hide (fun x hx => by have := hp x hx; omega)
      have hBa : Below w1.heap.size w1 (w1.alloc (.cells #[.slice V1 rs.length d1, .slice U1 n1 e1] 33)) := (Below.refl _ _).alloc (Nat.le_refl _) _
      have hb1a := next hb1 hBa
      have HI1 := hide (hI.below hBa)
      have HX1 := hide (hX.below hBa)
      have HV1 := hide (hV.below hBa)
      obtain ⟨now, HNW⟩ : ∃ now, Hid ((makeRunL l stock rs).getD [] = now) := ⟨_, hide rfl⟩
      obtain ⟨ok, HOK⟩ : ∃ ok, Hid ((makeRunL l stock rs).isSome = ok) := ⟨_, hide rfl⟩
      have hbb : (ok != ok) = false := by simp
      have HNO : Hid (ok = false → now = []) := hide (fun h => by
        rw [← HNW.out]
        cases h9 : makeRunL l stock rs with
        | none => rfl
        | some x => rw [← HOK.out, h9] at h; cases h)
      have HYES : Hid (ok = true → now.length = l.length ∧ ∀ x ∈ now, 0 ≤ x) := hide (fun h => by
        rw [← HNW.out]
        cases h9 : makeRunL l stock rs with
        | none => rw [← HOK.out, h9] at h; cases h
        | some x => exact makeRun_some h9)
      clear hp hI hX hV hBa
      go_wp2_with fail
      refine (implMakeRun_any _ _ _ _ _ _ _ _ _ _ _ _ _ HI1.out hl' HP.out HX1.out hx' HV1.out hv').mono ?_
      intro e w2 hM2
      obtain ⟨A2, k2, rfl, hI2, hB2⟩ := madeRun_form hM2
      rw [HNW.out] at hI2
      rw [HNW.out, HOK.out]
      have hb2 := next hb1a hB2
      obtain ⟨hq1, hq2, hq3⟩ : w2.cell? ⟨w1.heap.size, 0, none⟩ = some (.slice V1 rs.length d1) ∧ w2.cell? ⟨w1.heap.size, 1, none⟩ = some (.slice U1 n1 e1) ∧ w1.heap.size < w2.heap.size := keepBox (by simp) hB2 (by simp)
      have HI2 := hide (HI1.out.below hB2)
      have HX2 := hide (HX1.out.below hB2)
      have HV2 := hide (HV1.out.below hB2)
      have HN2 := hide hI2
      clear hM2 hI2 hB2 HI1 HX1 HV1
      go_wp2_with fail
      refine (specMakeRun_any _ _ _ _ _ _ _ _ _ _ _ _ _ HI2.out hl' HP.out HX2.out hx' HV2.out hv').mono ?_
      intro e w3 hM3
      obtain ⟨A3, k3, rfl, hI3, hB3⟩ := madeRun_form hM3
      rw [HNW.out] at hI3
      rw [HNW.out, HOK.out]
      have hb3 := next hb2 hB3
      have HN3 := hide (HN2.out.below hB3)
      have HM3 := hide hI3
      have hnl : now.length ≤ 1048576 := by
        cases ok with
        | false => rw [HNO.out rfl]; simp
        | true => rw [(HYES.out rfl).1]; exact hl'
      clear hM3 hI3 hB3 HI2 HX2 HV2 HN2 hq1 hq2 hq3
      go_wp2_with fail
      refine (sameInts_same _ _ _ _ _ _ HN3.out HM3.out hnl).mono ?_
      rintro e w4 ⟨rfl, hB4⟩
      have hb4 := next hb3 hB4
      have HN4 := hide (HN3.out.below hB4)
      clear hB4 HN3 HM3
      go_wp2_with fail
      refine (drawPlanLeast_any B d n _ (bytes_below hB hb4) (by omega) hd hd2).mono ?_
      rintro e w5 ⟨il, A5, c5, want, have_, g5, c6, g6, c7, rfl, hI, hil, hip, hW, hwl, hH, hhl, hB5⟩
      have hb5 := next hb4 hB5
      have hil' : il.length ≤ 1048576 := by omega
      have hwl' : want.length ≤ 1048576 := by omega
      have hhl' : have_.length ≤ 1048576 := by omega
      have HIP : Hid (∀ x ∈ il, x.parts.length ≤ 1048576) := hide (fun x hx => by have := hip x hx; omega)
      have HN5 := hide (HN4.out.below hB5)
      have HI5 := hide hI
      have HW5 := hide hW
      have HH5 := hide hH
      clear hip hI hW hH hB5 HN4
      go_wp2_with fail
      refine (implPlanLeast_any _ _ _ _ _ _ _ _ _ _ HI5.out hil' HIP.out HW5.out hwl' HH5.out hhl').mono ?_
      rintro e w6 ⟨v6, u6, rfl, hV6, hU6, -, hB6⟩
      obtain ⟨V6, dv, rfl, hVI, -⟩ := hV6.form
      obtain ⟨U6, du, rfl, hUI, -⟩ := hU6.form
      have hb6 := next hb5 hB6
      have HRSL : Hid ((planRunsL il want have_).length ≤ 1048576) := hide (by
        unfold planRunsL
        split
        · rw [lstL_len]; exact hil'
        · simp)
      have HYL : Hid (amountsOk il want have_ = true → makeRunL il have_ (planRunsL il want have_) = some (tab il.length (fun k => want.getD k 0 + (planLeftL il want have_).getD k 0)) ∧ (planLeftL il want have_).length = il.length ∧ want.length = il.length ∧ ∀ k, k < il.length → 0 ≤ want.getD k 0 ∧ want.getD k 0 ≤ 50 ∧ 0 ≤ (planLeftL il want have_).getD k 0 ∧ (planLeftL il want have_).getD k 0 ≤ 100000000) := hide (fun h => by
        obtain ⟨h1, ⟨h2, h3⟩, -⟩ := amountsOk_at h
        unfold planRunsL planLeftL
        rw [if_pos h, if_pos h]
        refine ⟨make_least h, tab_len _ _, h2, fun k hk => ?_⟩
        have a := getD_rng h3 (by omega) k
        have b := least_left h hk
        unfold leastLeft
        rw [tab_getDp hk]
        omega)
      obtain ⟨am, HAM⟩ : ∃ am, Hid (amountsOk il want have_ = am) := ⟨_, hide rfl⟩
      rw [HAM.out] at HYL ⊢
      generalize planRunsL il want have_ = rs6 at *
      generalize planLeftL il want have_ = lf6 at *
      have hrs6 := HRSL.out
      have hBb : Below w6.heap.size w6 (w6.alloc (.cells #[.slice V6 rs6.length dv, .slice U6 lf6.length du] 33)) := (Below.refl _ _).alloc (Nat.le_refl _) _
      have hb6a := next hb6 hBb
      have HN6 := hide ((HN5.out.below hB6).below hBb)
      have HI6 := hide ((HI5.out.below hB6).below hBb)
      have HW6 := hide ((HW5.out.below hB6).below hBb)
      have HH6 := hide ((HH5.out.below hB6).below hBb)
      have HV6 := hide (hVI.below hBb)
      have HU6 := hide (hUI.below hBb)
      clear hV6 hU6 hVI hUI hB6 hBb HN5 HI5 HW5 HH5
      go_wp2_with fail
      refine (implMakeRun_any _ _ _ _ _ _ _ _ _ _ _ _ _ HI6.out hil' HIP.out HH6.out hhl' HV6.out hrs6).mono ?_
      intro e w7 hM7
      obtain ⟨A7, k7, rfl, hI7, hB7⟩ := madeRun_form hM7
      have hb7 := next hb6a hB7
      obtain ⟨hq1, hq2, hq3⟩ : w7.cell? ⟨w6.heap.size, 0, none⟩ = some (.slice V6 rs6.length dv) ∧ w7.cell? ⟨w6.heap.size, 1, none⟩ = some (.slice U6 lf6.length du) ∧ w6.heap.size < w7.heap.size := keepBox (by simp) hB7 (by simp)
      have HN7 := hide (HN6.out.below hB7)
      have HW7 := hide (HW6.out.below hB7)
      have HU7 := hide (HU6.out.below hB7)
      clear hM7 hB7 HN6 HI6 HW6 HH6 HV6 HU6
      cases am with
      | false =>
        clear HYL
        generalize makeRunL il have_ rs6 = oo at *
        have HNt := hide HN7.out
        have hbt := hb7
        cases ok with
        | false =>
          have hnow := HNO.out rfl
          subst hnow
          go_wp2_with fail
          refine (alive_any _).mono ?_
          rintro e we ⟨rfl, hBe⟩
          go_wp2_with fail
          go_ret
          exact ⟨rfl, next hbt hBe⟩
        | true =>
          obtain ⟨hnl2, hn0⟩ := HYES.out rfl
          have HN0 := hide hn0
          have HNL2 := hide hnl2
          have hfin : ((now.length : Int) == l.length) = true := by simp [hnl2]
          clear hn0 HYES HNO hnl2
          go_wp2_with fail
          go_loopw [20] (fun i wr2 => ∃ k : Nat, k ≤ now.length ∧ i = .int .i64 k ∧ Below w7.heap.size w7 wr2) (fun i _ => now.length - (intOf i).toNat)
          case atStart => exact ⟨0, Nat.zero_le _, rfl, Below.refl _ _⟩
          case round =>
            obtain ⟨k9, hk9, rfl, hb9⟩ := hrel
            by_cases hlt9 : k9 < now.length
            · obtain ⟨b9, o9, rfl, -, hc9⟩ := (HNt.out.below hb9) k9 now[k9] (List.getElem?_eq_getElem hlt9)
              have hx9 := HN0.out now[k9] (List.getElem_mem hlt9)
              generalize now[k9] = x9 at *
              have hxn : ¬ x9 < 0 := by omega
              have hz9 : (0 : Int) ≤ k9 := by omega
              have hzl : (k9 : Int) < now.length := by omega
              go_wp2_with fail
              go_roundw
              case rel => exact ⟨k9 + 1, hlt9, by go_num, hb9⟩
              case measure => simp [intOf]; omega
            · obtain rfl : k9 = now.length := by omega
              have hzl : ¬ ((now.length : Nat) : Int) < now.length := by omega
              go_wp2_with fail
              go_ret
              exact ⟨by first | rfl | (have h9 := HNL2.out; simp [h9]), next hbt hb9⟩
      | true =>
        obtain ⟨hmk, hlf, hwn, hbd⟩ := HYL.out rfl
        rw [hmk] at hI7 ⊢
        have HBD := hide hbd
        have HMD := hide hI7
        have HQ := hide (And.intro hq1 (And.intro hq2 hq3))
        have hml : (tab il.length (fun k => want.getD k 0 + lf6.getD k 0)).length = il.length := tab_len _ _
        simp only [Option.getD_some, Option.isSome_some] at HMD ⊢
        rw [hml]
        have hne1 : (((il.length : Nat) : Int) != il.length) = false := by simp
        have hne2 : ((lf6.length : Int) != il.length) = false := by simp [hlf]
        have hz1 : il.length ≤ lf6.length := Nat.le_of_eq hlf.symm
        have hz2 : il.length ≤ want.length := Nat.le_of_eq hwn.symm
        clear hmk hbd hI7 HYL hml hlf hwn
        go_wp2_with fail
        go_loopw [19] (fun i wr2 => ∃ k : Nat, k ≤ il.length ∧ i = .int .i64 k ∧ Below w7.heap.size w7 wr2) (fun i _ => il.length - (intOf i).toNat)
        case atStart => exact ⟨0, Nat.zero_le _, rfl, Below.refl _ _⟩
        case round =>
          obtain ⟨k, hk, rfl, hbw⟩ := hrel
          obtain ⟨hx1, hx2, hx3⟩ := keepBox HQ.out hbw HQ.out.2.2
          by_cases hlt : k < il.length
          · obtain ⟨bm, om, rfl, -, hm1⟩ := (HMD.out.below hbw) k _ (tab_at hlt)
            obtain ⟨b2, o2, he, -, hw1⟩ := (HW7.out.below hbw) k (want[k]'(by omega)) (List.getElem?_eq_getElem (by omega))
            injection he with he
            injection he with he1 he2
            subst he1 he2
            rw [Nat.zero_add] at hw1
            obtain ⟨b3, o3, rfl, -, hf1⟩ := (HU7.out.below hbw) k (lf6[k]'(by omega)) (List.getElem?_eq_getElem (by omega))
            have hbk := HBD.out k hlt
            rw [show want.getD k 0 = want[k]'(by omega) from by simp [show k < want.length by omega], show lf6.getD k 0 = lf6[k]'(by omega) from by simp [show k < lf6.length by omega]] at hm1 hbk
            generalize (want[k]'(by omega)) = q at *
            generalize (lf6[k]'(by omega)) = f at *
            obtain ⟨hq0, hq9, hf0, hf9⟩ := hbk
            have hww : IntKind.i64.wrap (q + f) = q + f := IntWalk.i64_in _ (by omega)
            have hnn : (q + f != q + f) = false := by simp
            have hz : (0 : Int) ≤ k := by omega
            have hz3 : (k : Int) < il.length := by omega
            have hz4 : (k : Int) < lf6.length := by omega
            have hz5 : (k : Int) < want.length := by omega
            have HB := hide hbw
            clear hbw
            go_wp2_with fail
            go_quiet (fail)
            go_wp2_with fail
            go_roundw
            case rel => exact ⟨k + 1, hlt, by go_num, below_drewN HB.out _⟩
            case measure => simp [intOf]; omega
          · obtain rfl : k = il.length := by omega
            have hz3 : ¬ ((il.length : Nat) : Int) < il.length := by omega
            have HNt := hide (HN7.out.below hbw)
            have hbt := next hb7 hbw
            clear hbw HMD HQ HBD hx1 hx2 hx3 HN7
            generalize hWT : wr = WT at *
            cases ok with
            | false =>
              have hnow := HNO.out rfl
              subst hnow
              go_wp2_with fail
              refine (alive_any _).mono ?_
              rintro e we ⟨rfl, hBe⟩
              go_wp2_with fail
              go_ret
              exact ⟨rfl, next hbt hBe⟩
            | true =>
              obtain ⟨hnl2, hn0⟩ := HYES.out rfl
              have HN0 := hide hn0
              have HNL2 := hide hnl2
              have hfin : ((now.length : Int) == l.length) = true := by simp [hnl2]
              clear hn0 HYES HNO hnl2
              go_wp2_with fail
              go_loopw [20] (fun i wr2 => ∃ k : Nat, k ≤ now.length ∧ i = .int .i64 k ∧ Below WT.heap.size WT wr2) (fun i _ => now.length - (intOf i).toNat)
              case atStart => exact ⟨0, Nat.zero_le _, rfl, Below.refl _ _⟩
              case round =>
                obtain ⟨k9, hk9, rfl, hb9⟩ := hrel
                by_cases hlt9 : k9 < now.length
                · obtain ⟨b9, o9, rfl, -, hc9⟩ := (HNt.out.below hb9) k9 now[k9] (List.getElem?_eq_getElem hlt9)
                  have hx9 := HN0.out now[k9] (List.getElem_mem hlt9)
                  generalize now[k9] = x9 at *
                  have hxn : ¬ x9 < 0 := by omega
                  have hz9 : (0 : Int) ≤ k9 := by omega
                  have hzl : (k9 : Int) < now.length := by omega
                  go_wp2_with fail
                  go_roundw
                  case rel => exact ⟨k9 + 1, hlt9, by go_num, hb9⟩
                  case measure => simp [intOf]; omega
                · obtain rfl : k9 = now.length := by omega
                  have hzl : ¬ ((now.length : Nat) : Int) < now.length := by omega
                  go_wp2_with fail
                  go_ret
                  exact ⟨by first | rfl | (have h9 := HNL2.out; simp [h9]), next hbt hb9⟩
end Go.Proofs.YtgpcbigaeodhfaaDoor
