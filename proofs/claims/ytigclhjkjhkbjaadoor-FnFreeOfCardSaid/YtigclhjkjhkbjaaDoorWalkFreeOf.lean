/- For all drawn bytes the law of FreeOf answers true, and its argument reads as it did.
   Conditions: none. -/
import Derived.Test.YtigclhjkjhkbjaaDoorLawKit
import Derived.Test.YtigclhjkjhkbjaaDoorDrawFree
import Derived.Test.YtigclhjkjhkbjaaDoorFreeMath
import Derived.Test.YtigclhjkjhkbjaaDoorLists
namespace Go.Proofs.YtigclhjkjhkbjaaDoor
open Go.RowKit Go.ChangeShapes Go.WideShapes Go.ChangeAt

theorem hasInt_is (A : Option Addr) (c : Nat) (xs : List Int) (n : Int) (b : Bool) (H : Hid (xs.any (· == n) = b)) (w : World) (h1 : IntsAt w A xs) (hl : xs.length ≤ 1048576) :
    Calls Tryd.prog 36 #[.slice A xs.length c, .int .i64 n] w fun e w' => e = .returned (.bool b) ∧ w' = w := by
  have := hasInt_any A c xs n w h1 hl
  rwa [H.out] at this

set_option maxRecDepth 100000 in
set_option maxHeartbeats 2000000 in
theorem lawFreeOf_any (A : Option Addr) (c m : Nat) (w : World) (hB : BytesIn w A m) (hc : m ≤ c) (hc2 : c ≤ 9223372036854775807) :
    Calls Tryd.prog 8 #[.slice A m c] w fun e w' => e = .returned (.bool true) ∧ Below w.heap.size w w' := by
  by_cases hlen : (1048576 : Int) < m
  · go_enter Tryd.func8, Tryd.ntmps8
    go_wp2_with fail
    go_ret
    exact ⟨rfl, by go_grown⟩
  · go_enter Tryd.func8, Tryd.ntmps8
    go_wp2_with fail
    refine (drawFreeOf_any A c m w hB (by omega) hc hc2).mono ?_
    rintro e w1 ⟨l, A1, c1, n, rfl, hI, hl, hp, hb1⟩
    have hl' : l.length ≤ 1048576 := by omega
    have HP : Hid (∀ x ∈ l, x.parts.length ≤ 1048576) := hide (fun x hx => by have := hp x hx; omega)
    obtain ⟨F, HF⟩ : ∃ F, Hid (freeL l n = F) := ⟨_, hide rfl⟩
    have hFl : F.length ≤ l.length := by rw [← HF.out]; exact freeL_short l n
    clear hp
    go_wp2_with fail
    refine (implFreeOf_any _ _ _ _ _ hI hl' HP.out).mono ?_
    rintro e w2 ⟨v, rfl, hS2, hB2⟩
    rw [HF.out] at hS2
    obtain ⟨A2, c2, hv, hI2, -⟩ := hS2.form
    subst hv
    have hb2 := next hb1 hB2
    go_wp2_with fail
    refine (specFreeOf_any _ _ _ _ _ (hI.below hB2) hl' HP.out).mono ?_
    rintro e w3 ⟨v3, rfl, hS3, hB3⟩
    rw [HF.out] at hS3
    obtain ⟨A3, c3, hv, hI3, -⟩ := hS3.form
    subst hv
    have hb3 := next hb2 hB3
    have HI := hide ((hI.below hB2).below hB3)
    have HFI := hide (hI2.below hB3)
    have HI3 := hide hI3
    clear hI hI2 hI3 hS2 hS3 hB2 hB3
    go_wp2_with fail
    refine (sameInts_same _ _ _ _ _ _ HFI.out HI3.out (by omega)).mono ?_
    rintro e w4 ⟨rfl, hB4⟩
    have hb4 := next hb3 hB4
    have HI4 := hide (HI.out.below hB4)
    have HF4 := hide (HFI.out.below hB4)
    clear hB4 HI HFI HI3
    go_wp2_with fail
    refine (specItemsValid_any _ _ _ _ HI4.out hl' HP.out).mono ?_
    rintro e w5 ⟨rfl, hB5⟩
    have hb5 := next hb4 hB5
    have HI5 := hide (HI4.out.below hB5)
    have HF5 := hide (HF4.out.below hB5)
    clear hB5 HI4 HF4
    cases hok : itemsOk l with
    | false =>
      have hF0 : F = [] := by rw [← HF.out]; exact freeL_none (.inl hok)
      subst hF0
      clear hok
      go_wp2_with fail
      refine (alive_any _).mono ?_
      rintro e w6 ⟨rfl, hB6⟩
      go_wp2_with fail
      go_ret
      exact ⟨rfl, next hb5 hB6⟩
    | true =>
      have HOK := hide hok
      clear hok
      by_cases hn0 : n < 0
      · have hF0 : F = [] := by rw [← HF.out]; exact freeL_none (.inr (.inl hn0))
        subst hF0
        go_wp2_with fail
        refine (alive_any _).mono ?_
        rintro e w6 ⟨rfl, hB6⟩
        go_wp2_with fail
        go_ret
        exact ⟨rfl, next hb5 hB6⟩
      by_cases hn1 : 31 < n
      · have hF0 : F = [] := by rw [← HF.out]; exact freeL_none (.inr (.inr hn1))
        subst hF0
        go_wp2_with fail
        refine (alive_any _).mono ?_
        rintro e w6 ⟨rfl, hB6⟩
        go_wp2_with fail
        go_ret
        exact ⟨rfl, next hb5 hB6⟩
      obtain ⟨G, HG⟩ : ∃ G, Hid (freeL l 0 = G) := ⟨_, hide rfl⟩
      have hGl : G.length ≤ l.length := by rw [← HG.out]; exact freeL_short l 0
      go_wp2_with fail
      refine (implFreeOf_any _ _ _ _ _ HI5.out hl' HP.out).mono ?_
      rintro e w6 ⟨v6, rfl, hS6, hB6⟩
      rw [HG.out] at hS6
      obtain ⟨A6, c6, hv, hI6, -⟩ := hS6.form
      subst hv
      have hb6 := next hb5 hB6
      have HI6 := hide (HI5.out.below hB6)
      have HF6 := hide (HF5.out.below hB6)
      have HG6 := hide hI6
      clear hB6 HI5 HF5 hI6 hS6
      go_wp2_with fail
      go_loopw [7] (fun i wr => ∃ k : Nat, k ≤ l.length ∧ i = .int .i64 k ∧ Below w6.heap.size w6 wr) (fun i _ => l.length - (intOf i).toNat)
      case atStart => exact ⟨0, Nat.zero_le _, rfl, Below.refl _ _⟩
      case round =>
        obtain ⟨k, hk, rfl, hbr⟩ := hrel
        by_cases hlt : k < l.length
        · have hz : (0 : Int) ≤ k := by omega
          have hz2 : (k : Int) < l.length := by omega
          obtain ⟨Y, HY⟩ : ∃ Y, Hid (marksL l (k : Int) = Y) := ⟨_, hide rfl⟩
          have hYr : 0 ≤ Y ∧ Y ≤ 31 := by rw [← HY.out]; exact marksL_range HOK.out hz hz2
          obtain ⟨hY0, hY1⟩ := hYr
          go_wp2_with fail
          refine (implMarksOf_any _ _ _ _ _ (HI6.out.below hbr) hl' HP.out).mono ?_
          rintro e w7 ⟨rfl, hB7⟩
          rw [HY.out]
          have hb7 : Below w6.heap.size w6 w7 := next hbr hB7
          clear hB7 hbr
          go_wp2_with fail
          go_loopw [9, 10] (fun v i wr => ∃ j : Nat, j ≤ 5 ∧ i = .int .i64 j ∧ v = .bool (dis Y n j) ∧ wr = w7) (fun _ i _ => 5 - (intOf i).toNat)
          case atStart => exact ⟨0, Nat.zero_le _, rfl, rfl, rfl⟩
          case round =>
            obtain ⟨j, hj, rfl, rfl, rfl⟩ := hrel
            by_cases hjl : j < 5
            · have hjz : (0 : Int) ≤ j := by omega
              have hjz2 : (j : Int) < 5 := by omega
              have g1 := (div_range Y j hY0 (by omega)).1
              have g2 := (div_range n j (by omega) (by omega)).1
              have HD : Hid (dis Y n (j + 1) = (dis Y n j && (Y / 2 ^ j % 2 == 0 || n / 2 ^ j % 2 == 0))) := hide rfl
              generalize dis Y n j = d at *
              cases d with
              | false =>
                rw [Bool.false_and] at HD
                go_wp2_with fail
                go_roundw
                case rel => exact ⟨j + 1, hjl, by go_num, by rw [HD.out], trivial⟩
                case measure => simp [intOf]; omega
              | true =>
                rw [Bool.true_and] at HD
                cases h1 : (Y / 2 ^ j % 2 == 0) with
                | true =>
                  rw [h1, Bool.true_or] at HD
                  go_wp2_with fail
                  go_roundw
                  case rel => exact ⟨j + 1, hjl, by go_num, by rw [HD.out], trivial⟩
                  case measure => simp [intOf]; omega
                | false =>
                  rw [h1, Bool.false_or] at HD
                  cases h2 : (n / 2 ^ j % 2 == 0) with
                  | true =>
                    rw [h2] at HD
                    go_wp2_with fail
                    go_roundw
                    case rel => exact ⟨j + 1, hjl, by go_num, by rw [HD.out], trivial⟩
                    case measure => simp [intOf]; omega
                  | false =>
                    rw [h2] at HD
                    go_wp2_with fail
                    go_roundw
                    case rel => exact ⟨j + 1, hjl, by go_num, by rw [HD.out], trivial⟩
                    case measure => simp [intOf]; omega
            · obtain rfl : j = 5 := by omega
              have HM : Hid (dis Y n 5 = meet0 Y n) := hide (dis_meet hY0 hY1 (by omega) (by omega))
              rw [HM.out]
              obtain ⟨bl, offl, Al, cl, hA1, hbl, hi1, hi2, hi3, hpa⟩ := HI6.out k l[k] (List.getElem?_eq_getElem hlt)
              subst hA1
              have HH1 : Hid (F.any (· == (k : Int)) = (decide (0 < l[k].yield) && meet0 Y n)) := hide (by rw [← HF.out, freeL_any HOK.out (by omega) (by omega) (List.getElem?_eq_getElem hlt), HY.out])
              have HH2 : Hid (G.any (· == (k : Int)) = decide (0 < l[k].yield)) := hide (by rw [← HG.out, freeL_any HOK.out (by omega) (by omega) (List.getElem?_eq_getElem hlt), HY.out, meet0_none hY0 hY1, Bool.and_true])
              generalize l[k] = x at *
              generalize meet0 Y n = e0 at *
              have hsz := hb7.size
              have hc7 : wr.cell? ⟨bl, offl + k * 3, none⟩ = some (.int .i64 x.yield) := (hb7.cell hbl).trans hi1
              have HF7 := hide (HF6.out.below hb7)
              have HG7 := hide (HG6.out.below hb7)
              clear hpa hi1 hi2 hi3
              go_wp2_with fail
              have hFL : F.length ≤ 1048576 := by omega
              have hGL : G.length ≤ 1048576 := by omega
              have HQF : Hid (∀ nq, IntsAt (wr.drewN nq) A2 F) := hide (fun nq => HF7.out.below (below_drewN (Below.refl _ _) _))
              have HQG : Hid (∀ nq, IntsAt (wr.drewN nq) A6 G) := hide (fun nq => HG7.out.below (below_drewN (Below.refl _ _) _))
              by_cases hy : 0 < x.yield
              · rw [decide_eq_true hy] at HH1 HH2
                cases e0 with
                | true =>
                  have HK1 : Hid (F.any (· == (k : Int)) = true) := HH1
                  have HK2 : Hid (G.any (· == (k : Int)) = true) := HH2
                  go_quiet ((go_at_call 36; first | (with_reducible exact Calls.quiet_of_same (hasInt_is A2 c2 F k true HK1 _ (HQF.out _) hFL)) | (with_reducible exact Calls.quiet_of_same (hasInt_is A6 c6 G k true HK2 _ (HQG.out _) hGL))))
                  go_wp2_with fail
                  go_roundw
                  case rel => exact ⟨k + 1, hlt, by go_num, below_drewN hb7 _⟩
                  case measure => simp [intOf]; omega
                | false =>
                  have HK1 : Hid (F.any (· == (k : Int)) = false) := HH1
                  have HK2 : Hid (G.any (· == (k : Int)) = true) := HH2
                  go_quiet ((go_at_call 36; first | (with_reducible exact Calls.quiet_of_same (hasInt_is A2 c2 F k false HK1 _ (HQF.out _) hFL)) | (with_reducible exact Calls.quiet_of_same (hasInt_is A6 c6 G k true HK2 _ (HQG.out _) hGL))))
                  go_wp2_with fail
                  go_roundw
                  case rel => exact ⟨k + 1, hlt, by go_num, below_drewN hb7 _⟩
                  case measure => simp [intOf]; omega
              · rw [decide_eq_false hy] at HH1 HH2
                cases e0 with
                | true =>
                  have HK1 : Hid (F.any (· == (k : Int)) = false) := HH1
                  have HK2 : Hid (G.any (· == (k : Int)) = false) := HH2
                  go_quiet ((go_at_call 36; first | (with_reducible exact Calls.quiet_of_same (hasInt_is A2 c2 F k false HK1 _ (HQF.out _) hFL)) | (with_reducible exact Calls.quiet_of_same (hasInt_is A6 c6 G k false HK2 _ (HQG.out _) hGL))))
                  go_wp2_with fail
                  go_roundw
                  case rel => exact ⟨k + 1, hlt, by go_num, below_drewN hb7 _⟩
                  case measure => simp [intOf]; omega
                | false =>
                  have HK1 : Hid (F.any (· == (k : Int)) = false) := HH1
                  have HK2 : Hid (G.any (· == (k : Int)) = false) := HH2
                  go_quiet ((go_at_call 36; first | (with_reducible exact Calls.quiet_of_same (hasInt_is A2 c2 F k false HK1 _ (HQF.out _) hFL)) | (with_reducible exact Calls.quiet_of_same (hasInt_is A6 c6 G k false HK2 _ (HQG.out _) hGL))))
                  go_wp2_with fail
                  go_roundw
                  case rel => exact ⟨k + 1, hlt, by go_num, below_drewN hb7 _⟩
                  case measure => simp [intOf]; omega
        · have HUP : Hid (∀ (i : Nat) (x y : Int), F[i]? = some x → F[i + 1]? = some y → x < y) := hide (by rw [← HF.out]; exact freeL_up)
          go_wp2_with fail
          refine (ascend_any _ _ _ _ (HF6.out.below hbr) (by omega) HUP.out).mono ?_
          rintro e w8 ⟨rfl, hB8⟩
          go_wp2_with fail
          go_ret
          exact ⟨rfl, next hb6 (next hbr hB8)⟩
end Go.Proofs.YtigclhjkjhkbjaaDoor
