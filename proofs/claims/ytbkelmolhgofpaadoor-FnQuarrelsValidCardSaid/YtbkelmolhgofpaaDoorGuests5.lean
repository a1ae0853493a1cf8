/- Guests5: contracts of ApartValid, of the program and of the reference model.
   Conditions: lists have at most 1048576 elements. -/
import Derived.Test.YtbkelmolhgofpaaDoorGuests4
namespace Go.Proofs.YtbkelmolhgofpaaDoor
open Go.RowKit Go.ChangeShapes Go.WideShapes Go.ChangeAt Go.Deep

theorem sharersL_len (g : Int) (m : List Int) : (sharersL g m).length = g.toNat := by unfold sharersL; exact tab_len _ _
theorem sharersL_mem {g : Int} {m : List Int} (hg : g ≤ 6) (hm : ∀ x ∈ m, 0 ≤ x ∧ x < 64) {x : Int} (hx : x ∈ sharersL g m) : 0 ≤ x ∧ x < 64 := by
  obtain ⟨i, hi⟩ := List.getElem?_of_mem hx
  have hil := (List.getElem?_eq_some_iff.1 hi).1
  rw [sharersL_len] at hil
  unfold sharersL at hi
  rw [tab_at hil] at hi
  injection hi with hi
  rw [← hi]
  exact shGo_range (by omega) m 0 hm (by omega) (by omega)

theorem ap_no {g : Int} {m xs : List Int} (h : menuOk g m = false) : apartL g m xs = false := by unfold apartL; rw [h]; rfl

set_option maxHeartbeats 1000000 in
theorem implApartValid_any (g : Int) (A B : Option Addr) (c d : Nat) (m xs : List Int) (w : World) (hA : IntsAt w A m) (hl : m.length ≤ 1048576) (hB : IntsAt w B xs) (hm : xs.length ≤ 1048576) :
    Calls Tryd.prog 38 #[.int .i64 g, .slice A m.length c, .slice B xs.length d] w fun e w' => e = .returned (.bool (apartL g m xs)) ∧ Below w.heap.size w w' := by
  cases hM : menuOk g m with
  | false =>
    have HM := hide hM
    have HR := hide (ap_no (xs := xs) hM)
    clear hM
    go_enter Tryd.func38, Tryd.ntmps38
    go_wp2_with fail
    refine (implMenuValid_any _ _ _ _ _ hA hl).mono ?_
    rintro e w1 ⟨rfl, hB1⟩
    rw [HM.out]
    go_wp2_with fail
    go_ret
    exact ⟨by rw [HR.out]; rfl, hB1⟩
  | true =>
    have HM := hide hM
    have hg0 := (menuOk_g hM).1
    have hg1 := (menuOk_g hM).2
    have h6 := menuOk_len hM
    have HX : Hid (∀ x ∈ m, 0 ≤ x ∧ x < 64) := hide (fun x hx => ⟨(menuOk_at hM hx).1, (menuOk_at hM hx).2.2⟩)
    have HE := hide (apartL_eq (xs := xs) hM)
    cases hS : ascGo g 0 xs with
    | false =>
      have HS := hide hS
      have HR : Hid (apartL g m xs = false) := hide (by rw [HE.out, hS]; rfl)
      clear hM hS
      go_enter Tryd.func38, Tryd.ntmps38
      go_wp2_with fail
      refine (implMenuValid_any _ _ _ _ _ hA hl).mono ?_
      rintro e w1 ⟨rfl, hB1⟩
      rw [HM.out]
      go_wp2_with fail
      refine (ascendingBelow_any _ _ _ _ _ (hB.below hB1) hm hg0 (by omega)).mono ?_
      rintro e w2 ⟨rfl, hB2⟩
      rw [HS.out]
      have hb2 := next hB1 hB2
      go_wp2_with fail
      go_ret
      exact ⟨by rw [HR.out]; rfl, hb2⟩
    | true =>
      have HS := hide hS
      have HR : Hid (apartL g m xs = apartS (setL xs) (sharersL g m)) := hide (by rw [HE.out, hS]; rfl)
      have hr := ascGo_range (Int.le_refl 0) hS
      have HX6 : Hid (∀ x ∈ xs, 0 ≤ x ∧ x < 6) := hide (fun x hx => by have := hr x hx; omega)
      have hs : 0 ≤ setL xs ∧ setL xs < 64 := setGo_range xs 0 HX6.out (by omega) (by omega)
      have hs0 := hs.1
      have hs1 := hs.2
      have HSM : Hid (∀ x ∈ sharersL g m, 0 ≤ x ∧ x < 64) := hide (fun x hx => sharersL_mem hg1 HX.out hx)
      have hsl : (sharersL g m).length ≤ 6 := by rw [sharersL_len]; omega
      clear hM hS hs hr
      go_enter Tryd.func38, Tryd.ntmps38
      go_wp2_with fail
      refine (implMenuValid_any _ _ _ _ _ hA hl).mono ?_
      rintro e w1 ⟨rfl, hB1⟩
      rw [HM.out]
      go_wp2_with fail
      refine (ascendingBelow_any _ _ _ _ _ (hB.below hB1) hm hg0 (by omega)).mono ?_
      rintro e w2 ⟨rfl, hB2⟩
      rw [HS.out]
      have hb2 := next hB1 hB2
      go_wp2_with fail
      refine (setOf_any _ _ _ _ (hB.below hb2) hm HX6).mono ?_
      rintro e w3 ⟨rfl, rfl⟩
      go_wp2_with fail
      refine (sharersOf_any _ _ _ _ _ (hA.below hb2) h6 HX hg0 hg1).mono ?_
      rintro e w4 ⟨v, rfl, hSl, hB4⟩
      obtain ⟨A4, c4, rfl, hI4, -⟩ := hSl.form
      have hb4 := next hb2 hB4
      clear hSl
      go_wp2_with fail
      refine (isApart_any _ _ _ _ _ hI4 hsl HSM hs0 hs1).mono ?_
      rintro e w5 ⟨rfl, rfl⟩
      go_wp2_with fail
      go_ret
      exact ⟨by rw [HR.out]; rfl, hb4⟩

theorem IntsAt.cellOf {w : World} {b off : Nat} {xs : List Int} (h : IntsAt w (some ⟨b, off, none⟩) xs) {i : Nat} {x : Int} (hx : xs[i]? = some x) : w.cell? ⟨b, off + i, none⟩ = some (.int .i64 x) := by
  obtain ⟨b', off', e, _, h1⟩ := h i x hx
  injection e with e
  injection e with e1 e2
  subst e1 e2
  exact h1
theorem eatsBoth_cons (e : Int) (r : List Int) (x y : Nat) : eatsBoth (e :: r) x y = ((hasB e x && hasB e y) || eatsBoth r x y) := by unfold eatsBoth; rw [List.any_cons]
theorem eatsBoth_nil (x y : Nat) : eatsBoth [] x y = false := rfl
theorem row_range {g : Int} {m xs : List Int} {k : Nat} (h : rowApart g m xs k = true) : 0 ≤ xs.getD k 0 ∧ xs.getD k 0 ≤ g - 1 := by
  unfold rowApart at h
  simp only [Bool.and_eq_true] at h
  exact inR_iff.1 h.1.1

theorem apart_false {g : Int} {m xs : List Int} {k : Nat} (hk : k < xs.length) (h : rowApart g m xs k = false) : apartL g m xs = false := by
  unfold apartL
  rw [allN_false hk h]
  simp

set_option maxRecDepth 100000 in
set_option maxHeartbeats 4000000 in
theorem specApartValid_any (g : Int) (A B : Option Addr) (c d : Nat) (m xs : List Int) (w : World) (hA : IntsAt w A m) (hl : m.length ≤ 1048576) (hB : IntsAt w B xs) (hm : xs.length ≤ 1048576) :
    Calls Tryd.prog 39 #[.int .i64 g, .slice A m.length c, .slice B xs.length d] w fun e w' => e = .returned (.bool (apartL g m xs)) ∧ Below w.heap.size w w' := by
  cases hM : menuOk g m with
  | false =>
    have HM := hide hM
    have HR := hide (ap_no (xs := xs) hM)
    clear hM
    go_enter Tryd.func39, Tryd.ntmps39
    go_wp2_with fail
    refine (specMenuValid_any _ _ _ _ _ hA hl).mono ?_
    rintro e w1 ⟨rfl, hB1⟩
    rw [HM.out]
    go_wp2_with fail
    go_ret
    exact ⟨by rw [HR.out]; rfl, hB1⟩
  | true =>
    have HM := hide hM
    have hg0 := (menuOk_g hM).1
    have hg1 := (menuOk_g hM).2
    have h6 := menuOk_len hM
    have HX : Hid (∀ x ∈ m, 0 ≤ x ∧ x < 64) := hide (fun x hx => ⟨(menuOk_at hM hx).1, (menuOk_at hM hx).2.2⟩)
    have HR : Hid (apartL g m xs = allN xs.length (rowApart g m xs)) := hide (by unfold apartL; rw [hM]; rfl)
    have hwg : IntKind.i64.wrap (g - 1) = g - 1 := IntWalk.i64_in _ (by omega)
    clear hM
    go_enter Tryd.func39, Tryd.ntmps39
    go_wp2_with fail
    refine (specMenuValid_any _ _ _ _ _ hA hl).mono ?_
    rintro e w1 ⟨rfl, hB1⟩
    rw [HM.out]
    have hsz1 := hB1.size
    go_wp2_with fail
    go_loopw [7] (fun i wr => ∃ (k : Nat), k ≤ xs.length ∧ i = .int .i64 k ∧ Hid (∀ i, i < k → rowApart g m xs i = true) ∧ Below w.heap.size w wr) (fun i _ => xs.length - (intOf i).toNat)
    case atStart => exact ⟨0, Nat.zero_le _, rfl, hide (fun i hi => by omega), hB1⟩
    case round =>
      obtain ⟨k, hk, rfl, HG, hb⟩ := hrel
      have hsz := hb.size
      by_cases hlt : k < xs.length
      · obtain ⟨b, off, rfl, hbl, hc1⟩ := (hB.below hb) k xs[k] (List.getElem?_eq_getElem hlt)
        have HP : Hid (xs.getD k 0 = xs[k]) := hide (by simp [hlt])
        have HPE : Hid (xs[k]? = some xs[k]) := hide (List.getElem?_eq_getElem hlt)
        generalize xs[k] = p at *
        have hz : (0 : Int) ≤ k := by omega
        have hz2 : (k : Int) < xs.length := by omega
        cases h1 : inR p 0 (g - 1) with
        | false =>
          have H1 := hide h1
          have H3 : Hid (apartL g m xs = false) := hide (apart_false hlt (by unfold rowApart; rw [HP.out, h1]; rfl))
          clear h1
          go_wp2_with fail
          go_quiet ((go_at_call 61; exact Calls.quiet_of_same (l1In_is _ _ _ _ H1 _)))
          go_wp2_with fail
          go_ret
          exact ⟨by rw [H3.out]; rfl, below_drewN hb _⟩
        | true =>
          have H1 := hide h1
          obtain ⟨hp0, hp1⟩ := inR_iff.1 h1
          -- the rest of a round, once the numbers ascend
          have HROW : (decide (k = 0) || decide (xs.getD (k - 1) 0 < xs.getD k 0)) = true → Hid (rowApart g m xs k = allN k (fun b => !eatsBoth m p.toNat (xs.getD b 0).toNat)) := fun h => hide (by unfold rowApart; rw [h, HP.out, h1]; rfl)
          by_cases h0 : 0 < k
          · obtain ⟨i, rfl⟩ : ∃ i, k = i + 1 := ⟨k - 1, by omega⟩
            have hi : i < xs.length := by omega
            obtain ⟨b', off', hA', -, hd1⟩ := (hB.below hb) i (xs[i]'hi) (List.getElem?_eq_getElem hi)
            injection hA' with hA'
            injection hA' with hA1 hA2
            subst hA1 hA2
            have HQ : Hid (xs.getD i 0 = (xs[i]'hi)) := hide (by simp [hi])
            generalize (xs[i]'hi) = q at *
            by_cases hlt2 : q < p
            · have HROW2 := HROW (by rw [show i + 1 - 1 = i from rfl, HQ.out, HP.out, decide_eq_true hlt2]; simp)
              clear h1 HROW
              go_wp2_with fail
              go_quiet ((go_at_call 61; exact Calls.quiet_of_same (l1In_is _ _ _ _ H1 _)))
              go_wp2_with fail
              have hb3 := below_drewN hb nq
              have hsz3 := hb3.size
              have hp6 : p < 6 := by omega
              clear hc1 hd1
              go_loopw [8] (fun bv wr => ∃ b : Nat, b ≤ i + 1 ∧ bv = .int .i64 b ∧ Hid (∀ j, j < b → eatsBoth m p.toNat (xs.getD j 0).toNat = false) ∧ Below w.heap.size w wr) (fun bv _ => i + 1 - (intOf bv).toNat)
              case atStart => exact ⟨0, Nat.zero_le _, rfl, hide (fun j hj => by omega), hb3⟩
              case round =>
                obtain ⟨t, ht, rfl, HT, hb4⟩ := hrel
                have hsz4 := hb4.size
                by_cases htl : t < i + 1
                · have hty : t < xs.length := by omega
                  have HYE : Hid (xs[t]? = some xs[t]) := hide (List.getElem?_eq_getElem hty)
                  have HYD : Hid (xs.getD t 0 = xs[t]) := hide (by simp [hty])
                  have hyr := row_range (HG.out t htl)
                  rw [HYD.out] at hyr
                  generalize xs[t] = y at *
                  have hy0 : 0 ≤ y := hyr.1
                  have hy6 : y < 6 := by omega
                  clear hyr
                  have ht0 : (0 : Int) ≤ t := by omega
                  have ht1 : (t : Int) < i + 1 := by omega
                  have ht2 : (t : Int) < xs.length := by omega
                  go_wp2_with fail
                  go_loopw [9] (fun ev wr => ∃ j : Nat, j ≤ m.length ∧ ev = .int .i64 j ∧ Hid (eatsBoth m p.toNat y.toNat = eatsBoth (m.drop j) p.toNat y.toNat) ∧ Below w.heap.size w wr) (fun ev _ => m.length - (intOf ev).toNat)
                  case atStart => exact ⟨0, Nat.zero_le _, rfl, hide rfl, hb4⟩
                  case round =>
                    obtain ⟨j, hj, rfl, HJ, hb5⟩ := hrel
                    have hsz5 := hb5.size
                    by_cases hjl : j < m.length
                    · obtain ⟨b2, off2, rfl, hbl2, hm1⟩ := (hA.below hb5) j m[j] (List.getElem?_eq_getElem hjl)
                      have HE : Hid (m.drop j = m[j] :: m.drop (j + 1)) := hide (List.drop_eq_getElem_cons hjl)
                      have hx := HX.out m[j] (List.getElem_mem hjl)
                      generalize m[j] = e at *
                      have hcp := (hB.below hb5).cellOf HPE.out
                      have hcy := (hB.below hb5).cellOf HYE.out
                      have hd1 := div_range e p.toNat hx.1 hx.2
                      have hd2 := div_range e y.toNat hx.1 hx.2
                      clear hx
                      have hj0 : (0 : Int) ≤ j := by omega
                      have hj1 : (j : Int) < m.length := by omega
                      cases hh1 : hasB e p.toNat with
                      | false =>
                        have hf1 : (e / 2 ^ p.toNat % 2 == 1) = false := hh1
                        have H3 : Hid (eatsBoth m p.toNat y.toNat = eatsBoth (m.drop (j + 1)) p.toNat y.toNat) := hide (by rw [HJ.out, HE.out, eatsBoth_cons, hh1]; rfl)
                        clear hh1
                        go_wp2_with fail
                        go_quiet (fail)
                        go_wp2_with fail
                        go_roundw
                        case rel => exact ⟨j + 1, hjl, by go_num, H3, below_drewN hb5 _⟩
                        case measure => simp [intOf]; omega
                      | true =>
                        have hf1 : (e / 2 ^ p.toNat % 2 == 1) = true := hh1
                        cases hh2 : hasB e y.toNat with
                        | false =>
                          have hf2 : (e / 2 ^ y.toNat % 2 == 1) = false := hh2
                          have H3 : Hid (eatsBoth m p.toNat y.toNat = eatsBoth (m.drop (j + 1)) p.toNat y.toNat) := hide (by rw [HJ.out, HE.out, eatsBoth_cons, hh1, hh2]; rfl)
                          clear hh1 hh2
                          go_wp2_with fail
                          go_quiet (fail)
                          go_wp2_with fail
                          go_roundw
                          case rel => exact ⟨j + 1, hjl, by go_num, H3, below_drewN hb5 _⟩
                          case measure => simp [intOf]; omega
                        | true =>
                          have hf2 : (e / 2 ^ y.toNat % 2 == 1) = true := hh2
                          have H3 : Hid (apartL g m xs = false) := hide (apart_false hlt (by
                            rw [HROW2.out]
                            refine allN_false (i := t) htl ?_
                            rw [HYD.out, HJ.out, HE.out, eatsBoth_cons, hh1, hh2]
                            rfl))
                          clear hh1 hh2
                          go_wp2_with fail
                          go_quiet (fail)
                          go_wp2_with fail
                          go_ret
                          exact ⟨by rw [H3.out]; rfl, below_drewN hb5 _⟩
                    · have H3 : Hid (∀ j, j < t + 1 → eatsBoth m p.toNat (xs.getD j 0).toNat = false) := hide (fun j' hj' => by
                        by_cases e : j' = t
                        · subst e
                          rw [HYD.out, HJ.out, List.drop_of_length_le (by omega), eatsBoth_nil]
                        · exact HT.out j' (by omega))
                      go_wp2_with fail
                      go_roundw
                      case rel => exact ⟨t + 1, htl, by go_num, H3, hb5⟩
                      case measure => simp [intOf]; omega
                · have H3 : Hid (∀ j, j < i + 1 + 1 → rowApart g m xs j = true) := hide (fun j hj => by
                    by_cases e : j = i + 1
                    · subst e
                      rw [HROW2.out, allN_iff]
                      intro b hb
                      rw [HT.out b (by omega)]
                      rfl
                    · exact HG.out j (by omega))
                  go_wp2_with fail
                  go_roundw
                  case rel => exact ⟨i + 1 + 1, hlt, by go_num, H3, hb4⟩
                  case measure => simp [intOf]; omega
            · have H3 : Hid (apartL g m xs = false) := hide (apart_false hlt (by
                unfold rowApart
                rw [show i + 1 - 1 = i from rfl, HQ.out, HP.out, decide_eq_false hlt2, decide_eq_false (by omega : ¬ i + 1 = 0)]
                simp))
              clear h1 HROW
              go_wp2_with fail
              go_quiet ((go_at_call 61; exact Calls.quiet_of_same (l1In_is _ _ _ _ H1 _)))
              go_wp2_with fail
              go_ret
              exact ⟨by rw [H3.out]; rfl, below_drewN hb _⟩
          · have h0' : ¬ (0 : Int) < k := by omega
            have HROW2 := HROW (by rw [decide_eq_true (by omega : k = 0)]; rfl)
            clear h1 HROW
            go_wp2_with fail
            go_quiet ((go_at_call 61; exact Calls.quiet_of_same (l1In_is _ _ _ _ H1 _)))
            go_wp2_with fail
            have hb3 := below_drewN hb nq
            have hsz3 := hb3.size
            obtain rfl : k = 0 := by omega
            clear hc1
            go_loopw [8] (fun bv wr => bv = .int .i64 0 ∧ Below w.heap.size w wr) (fun _ _ => 0)
            case atStart => exact ⟨rfl, hb3⟩
            case round =>
              obtain ⟨rfl, hb4⟩ := hrel
              have hsz4 := hb4.size
              have H3 : Hid (∀ j, j < 0 + 1 → rowApart g m xs j = true) := hide (fun j hj => by
                obtain rfl : j = 0 := by omega
                rw [HROW2.out, allN_iff]
                intro b hb
                omega)
              go_wp2_with fail
              go_roundw
              case rel => exact ⟨0 + 1, hlt, by go_num, H3, hb4⟩
              case measure => simp [intOf]; omega
      · have H3 : Hid (apartL g m xs = true) := hide (by rw [HR.out, allN_iff]; intro i hi; exact HG.out i (by omega))
        go_wp2_with fail
        go_ret
        exact ⟨by rw [H3.out]; rfl, hb⟩
end Go.Proofs.YtbkelmolhgofpaaDoor
