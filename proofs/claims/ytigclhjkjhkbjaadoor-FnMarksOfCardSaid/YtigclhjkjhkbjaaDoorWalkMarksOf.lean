/- For all drawn bytes the law of MarksOf answers true, and its argument reads as it did.
   Conditions: none. -/
import Derived.Test.YtigclhjkjhkbjaaDoorLawKit
import Derived.Test.YtigclhjkjhkbjaaDoorMarksMath
namespace Go.Proofs.YtigclhjkjhkbjaaDoor
open Go.RowKit Go.ChangeShapes Go.WideShapes Go.ChangeAt

set_option maxRecDepth 100000 in
theorem drawMarksOf_any (A : Option Addr) (c m : Nat) (w : World) (hB : BytesIn w A m) (hm : m ≤ 9223372036854775807) (hc : m ≤ c) (hc2 : c ≤ 9223372036854775807) :
    Calls Tryd.prog 29 #[.slice A m c] w (DrawIx w) := by
  go_enter Tryd.func29, Tryd.ntmps29
  go_wp2_with fail
  refine (drawUsesOf_any A c m w hB hm hc hc2).mono ?_
  rintro e w1 ⟨l, A1, c1, n, rfl, hI, hl, hp, hn0, hn1, hb1⟩
  go_wp2_with fail
  refine bodyPost_ret (v := .tuple #[.slice A1 l.length c1, .int .i64 n]) (by simp [results, Tryd.results29, go_sem]) rfl ⟨l, A1, c1, n, rfl, hI, hl, hp, hn0, hn1, hb1⟩

theorem hasB_zero' {s : Int} {k : Nat} (h : hasB s k = true) : (s / 2 ^ k % 2 == 0) = false := by
  unfold hasB at h
  simp only [beq_iff_eq] at h
  rw [h]; rfl

set_option maxRecDepth 100000 in
set_option maxHeartbeats 2000000 in
theorem lawMarksOf_any (A : Option Addr) (c m : Nat) (w : World) (hB : BytesIn w A m) (hc : m ≤ c) (hc2 : c ≤ 9223372036854775807) :
    Calls Tryd.prog 7 #[.slice A m c] w fun e w' => e = .returned (.bool true) ∧ Below w.heap.size w w' := by
  by_cases hlen : (1048576 : Int) < m
  · go_enter Tryd.func7, Tryd.ntmps7
    go_wp2_with fail
    go_ret
    exact ⟨rfl, by go_grown⟩
  · go_enter Tryd.func7, Tryd.ntmps7
    go_wp2_with fail
    refine (drawMarksOf_any A c m w hB (by omega) hc hc2).mono ?_
    rintro e w1 ⟨l, A1, c1, n, rfl, hI, hl, hp, hn0, hn1, hb1⟩
    have hl' : l.length ≤ 1048576 := by omega
    have HP : Hid (∀ x ∈ l, x.parts.length ≤ 1048576) := hide (fun x hx => by have := hp x hx; omega)
    obtain ⟨X, HX⟩ : ∃ X, Hid (marksL l n = X) := ⟨_, hide rfl⟩
    have hne : (X != X) = false := by simp
    clear hp
    go_wp2_with fail
    refine (implMarksOf_any _ _ _ _ _ hI hl' HP.out).mono ?_
    rintro e w2 ⟨rfl, hB2⟩
    rw [HX.out]
    have hb2 := next hb1 hB2
    go_wp2_with fail
    refine (specMarksOf_any _ _ _ _ _ (hI.below hB2) hl' HP.out).mono ?_
    rintro e w3 ⟨rfl, hB3⟩
    rw [HX.out]
    have hb3 := next hb2 hB3
    have hI3 := (hI.below hB2).below hB3
    clear hI hB2 hB3
    by_cases hX : X < 0
    · have hX1 : X = -1 := by
        rw [← HX.out]
        exact marksL_neg (by rw [HX.out]; exact hX)
      subst hX1
      go_wp2_with fail
      refine (alive_any _).mono ?_
      rintro e w4 ⟨rfl, hB4⟩
      go_wp2_with fail
      go_ret
      exact ⟨rfl, next hb3 hB4⟩
    · obtain ⟨hok, hnn, hnl⟩ := marksL_parts (l := l) (n := n) (by rw [HX.out]; exact hX)
      obtain ⟨N, rfl⟩ : ∃ N : Nat, n = N := ⟨n.toNat, by omega⟩
      have HOK := hide hok
      have hNl : N < l.length := by omega
      have hl6 := itemsOk_len hok
      have hXr : 0 ≤ X ∧ X ≤ 31 := by rw [← HX.out]; exact marksL_range hok (by omega) (by omega)
      obtain ⟨hX0, hX1⟩ := hXr
      obtain ⟨U, HU⟩ : ∃ U, Hid (usesL l (N : Int) = U) := ⟨_, hide rfl⟩
      have hUr := usesL_range (l := l) (index := (N : Int)) (by have := uses_nn hok hNl; omega)
      rw [HU.out] at hUr
      obtain ⟨hU0, hU1⟩ := hUr
      clear hok
      go_wp2_with fail
      refine (implUsesOf_any _ _ _ _ _ hI3 hl' HP.out).mono ?_
      rintro e w4 ⟨rfl, hB4⟩
      rw [HU.out]
      have hb4 := next hb3 hB4
      have hI4 := hI3.below hB4
      clear hI3 hB4
      have HI4 := hide hI4
      clear hI4
      go_wp2_with fail
      have hS0 : ItemSB w4 (w4.alloc (.cells #[] 30)) (.slice (some ⟨w4.heap.size, 0, none⟩) 0 0) ((l.take 0).map clearI) := ⟨[], World.ownsRow_lit w4 #[] 0 (Nat.le_refl _) (by unfold maxLen; omega) rfl, fun i x hx => by simp at hx⟩
      have HS0 := hide hS0
      clear hS0
      go_loopw [7, 8] (fun v i wr => ∃ k : Nat, k ≤ l.length ∧ i = .int .i64 k ∧ ItemSB w4 wr v ((l.take k).map clearI) ∧ Below w4.heap.size w4 wr) (fun _ i _ => l.length - (intOf i).toNat)
      case atStart => exact ⟨0, Nat.zero_le _, rfl, HS0.out, (Below.refl _ _).alloc (Nat.le_refl _) _⟩
      case round =>
        clear HS0
        obtain ⟨k, hk, rfl, hS, hbr⟩ := hrel
        by_cases hlt : k < l.length
        · have hz : (0 : Int) ≤ k := by omega
          have hz2 : (k : Int) < l.length := by omega
          obtain ⟨Y, HY⟩ : ∃ Y, Hid (marksL l (k : Int) = Y) := ⟨_, hide rfl⟩
          have hYr : 0 ≤ Y ∧ Y ≤ 31 := by rw [← HY.out]; exact marksL_range HOK.out hz hz2
          obtain ⟨hY0, hY1⟩ := hYr
          have HS := hide hS
          clear hS
          go_wp2_with fail
          refine (implMarksOf_any _ _ _ _ _ (HI4.out.below hbr) hl' HP.out).mono ?_
          rintro e w5 ⟨rfl, hB5⟩
          rw [HY.out]
          have hb5 : Below w4.heap.size w4 w5 := next hbr hB5
          have HS5 := hide (HS.out.below hB5)
          clear hB5 HS hbr
          go_wp2_with fail
          go_loopw [10] (fun i wr => ∃ j : Nat, j ≤ 5 ∧ i = .int .i64 j ∧ wr = w5) (fun i _ => 5 - (intOf i).toNat)
          case atStart => exact ⟨0, Nat.zero_le _, rfl, rfl⟩
          case round =>
            obtain ⟨j, hj, rfl, rfl⟩ := hrel
            by_cases hjl : j < 5
            · have hjz : (0 : Int) ≤ j := by omega
              have hjz2 : (j : Int) < 5 := by omega
              have g1 := (div_range U k hU0 hU1).1
              have g2 := (div_range Y j hY0 (by omega)).1
              have g3 := (div_range X j hX0 (by omega)).1
              cases hUk : hasB U k with
              | false =>
                have h1 : (U / 2 ^ k % 2 == 1) = false := hUk
                clear hUk
                go_wp2_with fail
                go_roundw
                case rel => exact ⟨j + 1, hjl, by go_num, trivial⟩
                case measure => simp [intOf]; omega
              | true =>
                have h1 : (U / 2 ^ k % 2 == 1) = true := hUk
                cases hYj : hasB Y j with
                | false =>
                  have h3 : (Y / 2 ^ j % 2 == 1) = false := hYj
                  clear hUk hYj
                  go_wp2_with fail
                  go_roundw
                  case rel => exact ⟨j + 1, hjl, by go_num, trivial⟩
                  case measure => simp [intOf]; omega
                | true =>
                  have h3 : (Y / 2 ^ j % 2 == 1) = true := hYj
                  have h4 : (X / 2 ^ j % 2 == 0) = false := hasB_zero' (by
                    have := marks_trans HOK.out hNl hlt (by rw [HU.out]; exact hUk) (by rw [HY.out]; exact hYj)
                    rwa [HX.out] at this)
                  clear hUk hYj
                  go_wp2_with fail
                  go_roundw
                  case rel => exact ⟨j + 1, hjl, by go_num, trivial⟩
                  case measure => simp [intOf]; omega
            · obtain rfl : j = 5 := by omega
              obtain ⟨bl, offl, Al, cl, hA1, hbl, hi1, hi2, hi3, hpa⟩ := HI4.out k l[k] (List.getElem?_eq_getElem hlt)
              subst hA1
              have HT := hide (take_clear hlt)
              have HLN : Hid (((l.take k).map clearI).length = k) := hide (by simp; omega)
              generalize l[k] = x at *
              have hsz := hb5.size
              have HC : Hid (∀ W, Below w4.heap.size w4 W → W.cell? ⟨bl, offl + k * 3, none⟩ = some (.int .i64 x.yield) ∧ W.cell? ⟨bl, offl + k * 3 + 1, none⟩ = some (.slice Al x.parts.length cl)) := hide (fun W hB => ⟨(hB.cell hbl).trans hi1, (hB.cell hbl).trans hi2⟩)
              have HSa : Hid (ItemSB w4 (wr.alloc (.cells #[.int .i64 x.yield, .slice Al x.parts.length cl, .int .i64 0] 30)).drew u7 ((l.take k).map clearI)) := hide (HS5.out.below ((Below.refl _ _).alloc (Nat.le_refl _) _).drew)
              have HG : Hid (∀ w6, (wr.alloc (.cells #[.int .i64 x.yield, .slice Al x.parts.length cl, .int .i64 0] 30)).drew.grownBy w6 u7.ownBlock → Below w4.heap.size w4 w6) := hide (fun w6 hg => (hb5.alloc hsz _).drew.grown hg (by simp; omega) (fun j hj => by obtain ⟨cs, ho, _⟩ := HS5.out; exact (ho.lt j hj).1))
              have HPA := hide hpa
              clear hpa hi1 hi2 hi3 hbl
              go_wp2_with fail
              go_region_held3 (fun W => W.cell? ⟨bl, offl + k * 3, none⟩ = some (.int .i64 x.yield) ∧ W.cell? ⟨bl, offl + k * 3 + 1, none⟩ = some (.slice Al x.parts.length cl))
                (first | exact HC.out _ hb5.drew | exact HC.out _ (hb5.alloc hsz _).drew | exact HC.out _ (HG.out _ hgrow))
                ((refine step_push_itemB (by rfl) _ _ (by rfl) u7 _ (by rfl) HSa.out wr.heap.size ⟨x.yield, x.parts, 0⟩ Al cl (by rfl) (heap_alloc_new wr _) HPA.out (by rw [HLN.out]; omega) (by simp; omega) ?_; intro gg cap w6 hown6 hgrow))
              all_goals
                have hb6 := HG.out _ hgrow
                have hS6 : ItemSB w4 w6 (.slice (some ⟨gg, 0, none⟩) (k + 1) cap) ((l.take (k + 1)).map clearI) := by
                  rw [HLN.out] at hown6
                  rw [← HT.out]; exact hown6
                clear hgrow hown6
                go_wp2_with fail
                go_roundw
                case rel => exact ⟨k + 1, hlt, by go_num, hS6, hb6⟩
                case measure => simp [intOf]; omega
        · obtain rfl : k = l.length := by omega
          rw [List.take_length] at hS
          obtain ⟨A7, c7, hv7, hI7⟩ := hS.form hbr
          have HM := hide (marks_clear HOK.out hNl)
          have HL7 : Hid ((l.map clearI).length = l.length) := hide (by simp)
          have HP7 : Hid (∀ x ∈ l.map clearI, x.parts.length ≤ 1048576) := hide (fun x hx => by
            obtain ⟨y, hy, rfl⟩ := List.mem_map.1 hx
            exact HP.out y hy)
          generalize l.map clearI = L at *
          subst hv7
          have HI7 := hide hI7
          clear hI7 hS
          have hXle : decide (X ≤ 31) = true := decide_eq_true hX1
          go_wp2_with fail
          refine (implMarksOf_any _ _ _ _ _ HI7.out (by rw [HL7.out]; omega) HP7.out).mono ?_
          rintro e w8 ⟨rfl, hB8⟩
          rw [HM.out]
          go_wp2_with fail
          go_ret
          exact ⟨rfl, next hb4 (next hbr hB8)⟩
end Go.Proofs.YtigclhjkjhkbjaaDoor
