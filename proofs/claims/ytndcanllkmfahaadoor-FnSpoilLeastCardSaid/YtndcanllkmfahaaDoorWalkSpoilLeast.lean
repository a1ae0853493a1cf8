/- For all drawn bytes the law of SpoilLeast answers true, and its argument reads as it did.
   Conditions: none. -/
import Derived.Test.YtndcanllkmfahaaDoorLawKit
import Derived.Test.YtndcanllkmfahaaDoorLotKit
import Derived.Test.YtndcanllkmfahaaDoorTakeMath4
namespace Go.Proofs.YtndcanllkmfahaaDoor
open Go.RowKit Go.ChangeShapes Go.WideShapes Go.ChangeAt

theorem implSpoilLeast_at (A B : Option Addr) (c d n : Nat) (l : List Lot) (wants : List Int) (v : Int) (w : World) (hn : wants.length = n) (hv : Hid (spoilL l wants = v)) (hA : LotsAt w A l) (hl : l.length ≤ 1048576) (hB : IntsAt w B wants) (hw : n ≤ 1048576) :
    Calls Tryd.prog 39 #[.slice A l.length c, .slice B n d] w fun e w' => e = .returned (.int .i64 v) ∧ Below w.heap.size w w' := by
  subst hn
  have := implSpoilLeast_any A B c d l wants w hA hl hB hw
  rwa [hv.out] at this

set_option maxRecDepth 100000 in
set_option maxHeartbeats 4000000 in
theorem lawSpoilLeast_any (A : Option Addr) (c m : Nat) (w : World) (hB : BytesIn w A m) (hc : m ≤ c) (hc2 : c ≤ 9223372036854775807) :
    Calls Tryd.prog 9 #[.slice A m c] w fun e w' => e = .returned (.bool true) ∧ Below w.heap.size w w' := by
  by_cases hlen : (1048576 : Int) < m
  · go_enter Tryd.func9, Tryd.ntmps9
    go_wp2_with fail
    go_ret
    exact ⟨rfl, by go_grown⟩
  · go_enter Tryd.func9, Tryd.ntmps9
    go_wp2_with fail
    refine (drawSpoilLeast_any A c m w hB (by omega) hc hc2).mono ?_
    rintro e w1 ⟨ls, g, c1, xs, h, c2, rfl, hS, hT, hl, hx, hb1⟩
    have hl' : ls.length ≤ 1048576 := by omega
    have hx' : xs.length ≤ 1048576 := by omega
    have hcap := hT.cap.2.1
    have HI := hide hS.lots
    have HT := hide hT.ints
    obtain ⟨x, HX⟩ : ∃ x, Hid (spoilL ls xs = x) := ⟨_, hide rfl⟩
    have hne1 : (x != x) = false := by simp
    clear hS hT
    go_wp2_with fail
    refine (implSpoilLeast_any _ _ _ _ _ _ _ HI.out hl' HT.out hx').mono ?_
    rintro e w2 ⟨rfl, hB2⟩
    have hb2 := next hb1 hB2
    have HI2 := hide (HI.out.below hB2)
    have HT2 := hide (HT.out.below hB2)
    rw [HX.out]
    clear hB2
    go_wp2_with fail
    refine (specSpoilLeast_any _ _ _ _ _ _ _ HI2.out hl' HT2.out hx').mono ?_
    rintro e w3 ⟨rfl, hB3⟩
    have hb3 := next hb2 hB3
    have HI3 := hide (HI2.out.below hB3)
    have HT3 := hide (HT2.out.below hB3)
    rw [HX.out]
    clear hB3 HI HT HI2 HT2
    cases hok : stockOk ls xs with
    | false =>
      have hv : x = -1 := by
        rw [← HX.out]
        unfold spoilL
        rw [if_neg (by rw [hok]; decide)]
      subst hv
      clear hok
      go_wp2_with fail
      refine (alive_any _).mono ?_
      rintro e w5 ⟨rfl, hB5⟩
      go_wp2_with fail
      go_ret
      exact ⟨rfl, next hb3 hB5⟩
    | true =>
      obtain ⟨m0, HM0⟩ : ∃ m0, Hid (useMostL ls xs = m0) := ⟨_, hide rfl⟩
      have hmr := useMostL_range hok
      have hsum := (stock_sums hok).1
      have hule := useMost_le hok (day := 0) (inR_iff.2 (by omega))
      rw [bound_first hok] at hule
      rw [HM0.out] at hmr hsum hule
      rw [HX.out] at hsum
      obtain ⟨hm0, hm1⟩ := hmr
      obtain ⟨u0, HU0⟩ : ∃ u0, Hid (unitsL ls 0 = u0) := ⟨_, hide rfl⟩
      rw [HU0.out] at hsum hule
      have hur : u0 ≤ 45 := by
        rw [← HU0.out]
        unfold unitsL
        rw [if_pos (stockOk_parts hok).1]
        have := unitsGo_range (day := 0) (fun x hx => lotsOk_at (stockOk_parts hok).1 hx)
        have := lotsOk_len (stockOk_parts hok).1
        omega
      have hx0 : 0 ≤ x := by omega
      have hx1 : x ≤ 45 := by omega
      have hneg : ¬ x < 0 := by omega
      have hxm : (x + m0 == u0) = true := by rw [hsum]; simp
      have HOK := hide hok
      clear hok hsum
      go_wp2_with fail
      go_loopw [6] (fun iv wq => ∃ k : Nat, k ≤ xs.length ∧ iv = .int .i64 k ∧ Below w3.heap.size w3 wq) (fun iv _ => xs.length - (intOf iv).toNat)
      case atStart => exact ⟨0, Nat.zero_le _, rfl, Below.refl _ _⟩
      case round =>
        obtain ⟨k, hk, rfl, hd2⟩ := hrel
        have hbq := next hb3 hd2
        have hszq := hbq.size
        by_cases hltk : k < xs.length
        · obtain ⟨q, hq⟩ : ∃ q, xs[k]? = some q := ⟨_, List.getElem?_eq_getElem hltk⟩
          have hqr := (wantsOk_at (stockOk_parts HOK.out).2).2 q (List.mem_of_getElem? hq)
          obtain ⟨hq0, hq9⟩ := hqr
          have HQ := hide hq
          have HL0 : Hid (IntSl (wr.alloc (.cells #[] 3)) wr.heap.size (.slice (some ⟨wr.heap.size, 0, none⟩) 0 0) []) := hide (World.ownsRow_lit wr #[] 0 (Nat.le_refl _) (by unfold maxLen; omega) rfl)
          have HIA : Hid (IntsAt (wr.alloc (.cells #[] 3)) (some ⟨h, 0, none⟩) xs) := hide ((HT3.out.below hd2).below (by go_grown))
          have HLQ := hide (HI3.out.below hd2)
          have hk0 : (0 : Int) ≤ k := by omega
          have hk1 : (k : Int) < xs.length := by omega
          clear hq
          go_wp2_with (at_builtin; refine wpList_wanted (by rfl) (wp_copy_int _ _ (by rfl) wr.heap.size (.slice (some ⟨wr.heap.size, 0, none⟩) 0 0) (by rfl) HL0.out (by simp) ⟨h, 0, none⟩ xs.length c2 xs rfl (by rfl) HIA.out hx' (by simp) ?_); intro g7 cap7 w7 hown hgrow; have HO7 := hide hown; have HB7 : Hid (Below wr.heap.size wr w7) := hide (below_ownL hgrow); have hc8 := IntSl.cellAt HO7.out HQ.out; have hf8 := IntSl.frozenAt HO7.out k; clear hown hgrow)
          have hS8 := IntSl.store HO7.out k (q + 1)
          have hG8 := IntSl.grownSet HO7.out k (q + 1)
          obtain ⟨L8, HL8⟩ : ∃ L8, Hid (xs.set k (q + 1) = L8) := ⟨_, hide rfl⟩
          rw [HL8.out] at hS8
          have HM8 := hide (IntSl.ints hS8)
          have HB8 : Hid (Below wr.heap.size wr (w7.setCell ⟨g7, k, none⟩ (.int .i64 (q + 1)))) := hide (HB7.out.grown hG8 HB7.out.size (fun j hj => by injection hj with hj; have hlt := (World.ownsRow.lt HO7.out g7 rfl).1; omega))
          have hb8 := next hbq HB8.out
          have HI8 := hide (HLQ.out.below HB8.out)
          have HL8N : Hid (L8.length = xs.length) := hide (by rw [← HL8.out, List.length_set])
          obtain ⟨y, HY⟩ : ∃ y, Hid (spoilL ls L8 = y) := ⟨_, hide rfl⟩
          have HAT : Hid (L8[k]? = some (q + 1)) := hide (by rw [← HL8.out, List.getElem?_set_self hltk])
          clear hS8 hG8
          refine (implSpoilLeast_at _ _ _ _ _ _ L8 y _ HL8N.out HY HI8.out hl' HM8.out hx').mono ?_
          rintro e w9 ⟨rfl, hB9⟩
          obtain ⟨b9, off9, hDD9, hbl9, hc9⟩ := (HM8.out.below hB9) k _ HAT.out
          injection hDD9 with hDD9
          injection hDD9 with e91 e92
          subst e91 e92
          rw [Nat.zero_add] at hc9
          have hc10 : w9.cell? ⟨g7, k, none⟩ = some (.int .i64 (q + 1)) := hc9
          have hd9 := next hd2 (next HB8.out hB9)
          clear hc9 hc8 hf8
          by_cases hm9 : q + 1 ≤ 50
          · have hyc : y = x ∨ y = x - 1 := by
              obtain ⟨hs8, hm8⟩ := most_wanted HOK.out HQ.out hm9
              have a := (stock_sums HOK.out).1
              have b := (stock_sums hs8).1
              rw [HL8.out] at hm8 b
              rw [HX.out, HM0.out, HU0.out] at a
              rw [HY.out, HU0.out] at b
              rw [HM0.out] at hm8
              omega
            by_cases hyx : y = x
            · have hyb : (y != x) = false := by rw [hyx]; simp
              clear hyx hyc
              go_wp2_with fail
              go_roundw
              case rel => exact ⟨k + 1, hltk, by go_num, hd9⟩
              case measure => simp [intOf]; omega
            · have hyb : (y != x) = true := by simpa using hyx
              have hyb2 : (y != x - 1) = false := by rw [hyc.resolve_left hyx]; simp
              clear hyx hyc
              go_wp2_with fail
              go_roundw
              case rel => exact ⟨k + 1, hltk, by go_num, hd9⟩
              case measure => simp [intOf]; omega
          · go_wp2_with fail
            go_roundw
            case rel => exact ⟨k + 1, hltk, by go_num, hd9⟩
            case measure => simp [intOf]; omega
        · have hk1 : ¬ (k : Int) < xs.length := by omega
          have HI8 := hide (HI3.out.below hd2)
          have HT8 := hide (HT3.out.below hd2)
          go_wp2_with fail
          refine (implUseMost_any _ _ _ _ _ _ _ HI8.out hl' HT8.out hx').mono ?_
          rintro e w9 ⟨rfl, hB9⟩
          rw [HM0.out]
          have hb9 := next hbq hB9
          have HI9 := hide (HI8.out.below hB9)
          go_wp2_with fail
          refine (implLotsAt_any _ _ _ _ _ HI9.out hl').mono ?_
          rintro e w10 ⟨rfl, hB10⟩
          rw [HU0.out]
          go_wp2_with fail
          go_ret
          exact ⟨rfl, next hb9 hB10⟩
end Go.Proofs.YtndcanllkmfahaaDoor
