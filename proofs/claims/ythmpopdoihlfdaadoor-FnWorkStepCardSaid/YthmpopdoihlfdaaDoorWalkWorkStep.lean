/- For all drawn bytes the law of WorkStep answers true, and its argument reads as it did.
   Conditions: the two tables hold what the source says. -/
import Derived.Test.YthmpopdoihlfdaaDoorDrawKitK
import Derived.Test.YthmpopdoihlfdaaDoorAlive
import Derived.Test.YthmpopdoihlfdaaDoorTick3
import Derived.Test.YthmpopdoihlfdaaDoorTick9
import Derived.Test.YthmpopdoihlfdaaDoorSame2
import Derived.Test.YthmpopdoihlfdaaDoorTickMath2
namespace Go.Proofs.YthmpopdoihlfdaaDoor
open Go.RowKit Go.ChangeShapes Go.WideShapes Go.ChangeAt Go.Deep

theorem workStep_rowsK (l : List (List Order)) : (workStepL l).1.length ≤ 1048576 ∧ ∀ x ∈ (workStepL l).1, x.length ≤ 1048576 := by
  cases h : kitchenOkL l with
  | true =>
    have h2 := workStep_ok h
    exact ⟨Nat.le_trans (kitchenOk_len h2) (by omega), fun x hx => Nat.le_trans (ticketOk_len (kitchenOk_at h2 hx)) (by omega)⟩
  | false =>
    unfold workStepL
    rw [h]
    simp

set_option maxRecDepth 100000 in
set_option maxHeartbeats 4000000 in
theorem lawWorkStep_any (A : Option Addr) (c m : Nat) (w : World) (hB : BytesIn w A m) (hc : m ≤ c) (hc2 : c ≤ 9223372036854775807) (hTP : PiecesAt w) (hTN : NextAt w) :
    Calls Tryd.prog 11 #[.slice A m c] w fun e w' => e = .returned (.bool true) ∧ Below w.heap.size w w' := by
  by_cases hlen : (1048576 : Int) < m
  · go_enter Tryd.func11, Tryd.ntmps11
    go_wp2_with fail
    go_ret
    exact ⟨rfl, by go_grown⟩
  · go_enter Tryd.func11, Tryd.ntmps11
    go_wp2_with fail
    refine (drawWorkStep_any A c m w hB (by omega) hc hc2).mono ?_
    rintro e w1 ⟨l, G, d, rfl, hS, h5, hx7, hb1⟩
    have HT1 := hide hS.rows
    have hll : l.length ≤ 1048576 := by omega
    have HX : Hid (∀ x ∈ l, x.length ≤ 1048576) := hide (fun x hx => by have := hx7 x hx; omega)
    clear hS hx7
    have HTP1 := hide (hTP.below hb1)
    have HTN1 := hide (hTN.below hb1)
    obtain ⟨hyl, hyx⟩ := workStep_rowsK l
    obtain ⟨y, HY⟩ : ∃ y, Hid ((workStepL l).1 = y) := ⟨_, hide rfl⟩
    obtain ⟨ok, HK⟩ : ∃ ok, Hid ((workStepL l).2 = ok) := ⟨_, hide rfl⟩
    rw [HY.out] at hyl hyx
    have HYX := hide hyx
    have hkk : (ok != ok) = false := by simp
    clear hyx
    go_wp2_with fail
    refine (implWorkStep_any _ _ _ _ HT1.out hll HX.out HTP1.out HTN1.out).mono ?_
    rintro e w2 ⟨u, rfl, hU, hB2⟩
    rw [HY.out] at hU
    rw [HK.out]
    obtain ⟨A2, c2, rfl, hR2⟩ := hU.form
    have hb2 := next hb1 hB2
    have HT2 := hide (HT1.out.below hB2)
    have HR2 := hide hR2
    clear hU hR2
    go_wp2_with fail
    refine (specWorkStep_any _ _ _ _ HT2.out hll HX.out).mono ?_
    rintro e w3 ⟨u, rfl, hU, hB3⟩
    rw [HY.out] at hU
    rw [HK.out]
    obtain ⟨A3, c3, rfl, hR3⟩ := hU.form
    have hb3 := next hb2 hB3
    have HT3 := hide (HT2.out.below hB3)
    have HR23 := hide (HR2.out.below hB3)
    have HR3 := hide hR3
    clear hU hR3 hB2 hB3 HT1 HT2 HR2
    go_wp2_with fail
    refine (sameKitchen_same _ _ _ _ _ _ HR23.out HR3.out hyl HYX.out).mono ?_
    rintro e w4 ⟨rfl, hB4⟩
    have hb4 := next hb3 hB4
    have HT4 := hide (HT3.out.below hB4)
    have HR4 := hide (HR23.out.below hB4)
    clear hB4 HT3 HR3 HR23
    go_wp2_with fail
    refine (specKitchenValid_any _ _ _ _ HT4.out hll HX.out).mono ?_
    rintro e w5 ⟨rfl, hB5⟩
    have hb5 := next hb4 hB5
    have HT5 := hide (HT4.out.below hB5)
    have HR5 := hide (HR4.out.below hB5)
    clear hB5 HT4 HR4
    cases hv : kitchenOkL l with
    | false =>
      have he : workStepL l = ([], false) := by unfold workStepL; rw [hv]; rfl
      obtain rfl : y = [] := by rw [← HY.out, he]
      obtain rfl : ok = false := by rw [← HK.out, he]
      clear hv he
      simp only [List.length_nil]
      go_wp2_with fail
      refine (alive_any _).mono ?_
      rintro e w6 ⟨rfl, hB6⟩
      have hb6 := next hb5 hB6
      go_wp2_with fail
      go_ret
      exact ⟨rfl, hb6⟩
    | true =>
      have HV := hide hv
      have HD : Hid (ok = !allDone l) := hide (by rw [← HK.out]; exact workStep_done hv)
      have HYV : Hid (kitchenOkL y = true) := hide (by rw [← HY.out]; exact workStep_ok hv)
      clear hv
      go_wp2_with fail
      go_loopw [8, 9] (fun dv iv wr => ∃ (k : Nat) (dn : Bool), k ≤ l.length ∧ iv = .int .i64 k ∧ dv = .bool dn ∧ Hid (allDone l = (dn && allDone (l.drop k))) ∧ Below w5.heap.size w5 wr) (fun _ iv _ => l.length - (intOf iv).toNat)
      case atStart => exact ⟨0, true, Nat.zero_le _, rfl, rfl, hide (by simp), Below.refl _ _⟩
      case round =>
        obtain ⟨k, dn, hk, rfl, rfl, HG, hd⟩ := hrel
        have hb := next hb5 hd
        have hsz := hd.size
        have HT6 := hide (HT5.out.below hd)
        have HR6 := hide (HR5.out.below hd)
        have HTP6 := hide (hTP.below hb)
        by_cases hlt : k < l.length
        · obtain ⟨b, off, A', c', hA', hbl, hc1, hI⟩ := HT6.out k l[k] (List.getElem?_eq_getElem hlt)
          injection hA' with hA'
          injection hA' with e1 e2
          subst e1 e2
          rw [Nat.zero_add] at hc1
          have HDR : Hid (l.drop k = l[k] :: l.drop (k + 1)) := hide (List.drop_eq_getElem_cons hlt)
          have hxl : l[k].length ≤ 1048576 := HX.out _ (List.getElem_mem hlt)
          generalize l[k] = x at *
          have HG1 : Hid (allDone l = ((dn && doneL x) && allDone (l.drop (k + 1)))) := hide (by rw [HG.out, HDR.out]; unfold allDone; rw [List.all_cons, Bool.and_assoc])
          have hz : (0 : Int) ≤ k := by omega
          have hz2 : (k : Int) < l.length := by omega
          cases dn with
          | false =>
            go_wp2_with fail
            go_roundw
            case rel => exact ⟨k + 1, false, hlt, by go_num, rfl, hide (by rw [HG1.out]; simp), hd⟩
            case measure => simp [intOf]; omega
          | true =>
            go_wp2_with fail
            refine (implTicketDone_any _ _ _ _ hI hxl HTP6.out).mono ?_
            rintro e w6 ⟨rfl, hB6⟩
            have hd6 := next hd hB6
            go_wp2_with fail
            go_roundw
            case rel => exact ⟨k + 1, doneL x, hlt, by go_num, rfl, hide (by rw [HG1.out]; simp), hd6⟩
            case measure => simp [intOf]; omega
        · have hz2 : ¬ (k : Int) < l.length := by omega
          have hdn : ok = !dn := by
            rw [HD.out, HG.out, List.drop_of_length_le (by omega)]
            simp [allDone]
          cases ok with
          | true =>
            obtain rfl : dn = false := by cases dn with
              | false => rfl
              | true => exact absurd hdn (by decide)
            have hlk := workStep_left HV.out HK.out
            have hr := leftK_range l (fun t ht => kitchenOk_at HV.out ht)
            have h4 := kitchenOk_len HV.out
            have HL1 : Hid (workLeftL y = leftK l - 1) := hide (by unfold workLeftL; rw [if_pos HYV.out, ← HY.out, hlk])
            have HL2 : Hid (workLeftL l = leftK l) := hide (by unfold workLeftL; rw [if_pos HV.out])
            obtain ⟨q, HQ⟩ : ∃ q, Hid (leftK l = q) := ⟨_, hide rfl⟩
            rw [HQ.out] at hr HL1 HL2
            have hqq : (q - 1 == q - 1) = true := by simp
            clear hlk hdn
            go_wp2_with fail
            refine (implWorkLeft_any _ _ _ _ HR6.out hyl HYX.out HTP6.out).mono ?_
            rintro e w7 ⟨rfl, hB7⟩
            rw [HL1.out]
            have hb7 := next hb hB7
            have HT7 := hide (HT6.out.below hB7)
            have HR7 := hide (HR6.out.below hB7)
            have HTP7 := hide (hTP.below hb7)
            go_wp2_with fail
            refine (implWorkLeft_any _ _ _ _ HT7.out hll HX.out HTP7.out).mono ?_
            rintro e w8 ⟨rfl, hB8⟩
            rw [HL2.out]
            have hb8 := next hb7 hB8
            have HR8 := hide (HR7.out.below hB8)
            have HTP8 := hide (hTP.below hb8)
            go_wp2_with fail
            refine (implKitchenValid_any _ _ _ _ HR8.out hyl HYX.out HTP8.out).mono ?_
            rintro e w9 ⟨rfl, hB9⟩
            rw [HYV.out]
            have hb9 := next hb8 hB9
            go_wp2_with fail
            go_ret
            exact ⟨rfl, hb9⟩
          | false =>
            obtain rfl : dn = true := by cases dn with
              | true => rfl
              | false => exact absurd hdn (by decide)
            obtain rfl : l = y := by rw [← HY.out]; exact (workStep_stays HV.out HK.out).symm
            clear hdn
            go_wp2_with fail
            refine (sameKitchen_same _ _ _ _ _ _ HR6.out HT6.out hyl HYX.out).mono ?_
            rintro e w7 ⟨rfl, hB7⟩
            have hb7 := next hb hB7
            have HR7 := hide (HR6.out.below hB7)
            have HTP7 := hide (hTP.below hb7)
            go_wp2_with fail
            refine (implKitchenValid_any _ _ _ _ HR7.out hyl HYX.out HTP7.out).mono ?_
            rintro e w9 ⟨rfl, hB9⟩
            rw [HYV.out]
            have hb9 := next hb7 hB9
            go_wp2_with fail
            go_ret
            exact ⟨rfl, hb9⟩
end Go.Proofs.YthmpopdoihlfdaaDoor
