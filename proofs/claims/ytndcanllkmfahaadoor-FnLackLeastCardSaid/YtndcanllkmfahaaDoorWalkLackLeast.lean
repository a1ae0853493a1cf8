/- For all drawn bytes the law of LackLeast answers true, and its argument reads as it did.
   Conditions: none. -/
import Derived.Test.YtndcanllkmfahaaDoorLawKit
import Derived.Test.YtndcanllkmfahaaDoorLotKit
import Derived.Test.YtndcanllkmfahaaDoorTakeMath4
namespace Go.Proofs.YtndcanllkmfahaaDoor
open Go.RowKit Go.ChangeShapes Go.WideShapes Go.ChangeAt

theorem implLackLeast_at (A B : Option Addr) (c d n : Nat) (l : List Lot) (wants : List Int) (v : Int) (w : World) (hn : l.length = n) (hv : Hid (lackL l wants = v)) (hA : LotsAt w A l) (hl : n ≤ 1048576) (hB : IntsAt w B wants) (hw : wants.length ≤ 1048576) :
    Calls Tryd.prog 42 #[.slice A n c, .slice B wants.length d] w fun e w' => e = .returned (.int .i64 v) ∧ Below w.heap.size w w' := by
  subst hn
  have := implLackLeast_any A B c d l wants w hA hl hB hw
  rwa [hv.out] at this
theorem implLotsValid_atL (A : Option Addr) (c n : Nat) (l : List Lot) (b : Bool) (w : World) (hn : l.length = n) (hb : Hid (lotsOk l = b)) (hA : LotsAt w A l) (hl : n ≤ 1048576) :
    Calls Tryd.prog 21 #[.slice A n c] w fun e w' => e = .returned (.bool b) ∧ Below w.heap.size w w' := by
  subst hn
  have := implLotsValid_any A c l w hA hl
  rwa [hb.out] at this

set_option maxRecDepth 100000 in
set_option maxHeartbeats 4000000 in
theorem lawLackLeast_any (A : Option Addr) (c m : Nat) (w : World) (hB : BytesIn w A m) (hc : m ≤ c) (hc2 : c ≤ 9223372036854775807) :
    Calls Tryd.prog 10 #[.slice A m c] w fun e w' => e = .returned (.bool true) ∧ Below w.heap.size w w' := by
  by_cases hlen : (1048576 : Int) < m
  · go_enter Tryd.func10, Tryd.ntmps10
    go_wp2_with fail
    go_ret
    exact ⟨rfl, by go_grown⟩
  · go_enter Tryd.func10, Tryd.ntmps10
    go_wp2_with fail
    refine (drawLackLeast_any A c m w hB (by omega) hc hc2).mono ?_
    rintro e w1 ⟨ls, g, c1, xs, h, c2, rfl, hS, hT, hl, hx, hb1⟩
    have hl' : ls.length ≤ 1048576 := by omega
    have hx' : xs.length ≤ 1048576 := by omega
    have hcap := hT.cap.2.1
    have HI := hide hS.lots
    have HT := hide hT.ints
    obtain ⟨x, HX⟩ : ∃ x, Hid (lackL ls xs = x) := ⟨_, hide rfl⟩
    have hne1 : (x != x) = false := by simp
    clear hS hT
    go_wp2_with fail
    refine (implLackLeast_any _ _ _ _ _ _ _ HI.out hl' HT.out hx').mono ?_
    rintro e w2 ⟨rfl, hB2⟩
    have hb2 := next hb1 hB2
    have HI2 := hide (HI.out.below hB2)
    have HT2 := hide (HT.out.below hB2)
    rw [HX.out]
    clear hB2
    go_wp2_with fail
    refine (specLackLeast_any _ _ _ _ _ _ _ HI2.out hl' HT2.out hx').mono ?_
    rintro e w3 ⟨rfl, hB3⟩
    have hb3 := next hb2 hB3
    have HI3 := hide (HI2.out.below hB3)
    have HT3 := hide (HT2.out.below hB3)
    rw [HX.out]
    clear hB3 HI HT HI2 HT2
    cases hok : stockOk ls xs with
    | false =>
      have hv : x = -1 := by
        rw [← HX.out]
        unfold lackL
        rw [if_neg (by rw [hok]; decide)]
      subst hv
      clear hok
      go_wp2_with fail
      refine (alive_any _).mono ?_
      rintro e w5 ⟨rfl, hB5⟩
      go_wp2_with fail
      go_ret
      exact ⟨rfl, next hb3 hB5⟩
    | true =>
      have hxr : 0 ≤ x ∧ x ≤ 300 := by
        have a := (stock_sums hok).2
        have b := useMost_le hok (day := 6) (inR_iff.2 (by omega))
        rw [bound_last hok] at b
        have c := (useMostL_range hok).1
        have d := wants_sum (stockOk_parts hok).2
        rw [HX.out] at a
        omega
      obtain ⟨hx0, hx1⟩ := hxr
      have hneg : ¬ x < 0 := by omega
      have HOK := hide hok
      have hz3 := hb3.size
      have HL0 : Hid (LotSl (w3.alloc (.cells #[] 36)) w3.heap.size (.slice (some ⟨w3.heap.size, 0, none⟩) 0 0) []) := hide (World.ownsRow_lit w3 #[] 0 (Nat.le_refl _) (by unfold maxLen; omega) rfl)
      have HIA : Hid (LotsAt (w3.alloc (.cells #[] 36)) (some ⟨g, 0, none⟩) ls) := hide (HI3.out.below (by go_grown))
      clear hok
      go_wp2_with (at_builtin; first
        | (refine wpList_wanted (by rfl) (wp_copy_lot _ _ (by rfl) w3.heap.size (.slice (some ⟨w3.heap.size, 0, none⟩) 0 0) (by rfl) HL0.out (by simp) ⟨g, 0, none⟩ ls.length c1 ls rfl (by rfl) HIA.out hl' (by simp) ?_); intro g7 cap7 w7 hown hgrow; have HO7 := hide hown; have HB7 : Hid (Below w3.heap.size w3 w7) := hide (below_ownL hgrow); have HD7 := hide (World.ownsRow.lt HO7.out); clear hown hgrow)
        | (refine wpList_wanted (by rfl) (wp_push_lot _ _ (by rfl) w3.heap.size (.slice (some ⟨g7, 0, none⟩) ls.length cap7) ls (by rfl) (World.ownsRow.alloc HO7.out _) w7.heap.size ⟨x, 5⟩ (by rfl) (heap_alloc_new w7 _) hl' (by have := HB7.out.size; simp; omega) ?_); intro g8 cap8 w8 hown hgrow; have HB8 : Hid (Below w3.heap.size w3 w8) := hide ((HB7.out.alloc HB7.out.size _).grown hgrow (by have := HB7.out.size; simp; omega) (fun k hk => (HD7.out k hk).1)); have HI8 := hide (LotSl.lots hown); clear hown hgrow))
      have hb8 := next hb3 HB8.out
      have HT8 := hide (HT3.out.below HB8.out)
      obtain ⟨v, HV⟩ : ∃ v, Hid (lotsOk (ls ++ [⟨x, 5⟩]) = v) := ⟨_, hide rfl⟩
      refine (implLotsValid_atL _ _ _ (ls ++ [⟨x, 5⟩]) v _ (by simp) HV HI8.out (by omega)).mono ?_
      rintro e w9 ⟨rfl, hB9⟩
      have hb9 := next hb8 hB9
      cases v with
      | false =>
        go_wp2_with fail
        go_ret
        exact ⟨rfl, hb9⟩
      | true =>
        have HI9 := hide (HI8.out.below hB9)
        have HT9 := hide (HT8.out.below hB9)
        have HLK : Hid (lackL (ls ++ [⟨x, 5⟩]) xs = 0) := hide (by
          have := lack_fresh HOK.out (by rw [HX.out]; exact HV.out)
          rwa [HX.out] at this)
        go_wp2_with fail
        refine (implLackLeast_at _ _ _ _ _ (ls ++ [⟨x, 5⟩]) _ 0 _ (by simp) HLK HI9.out (by omega) HT9.out hx').mono ?_
        rintro e w10 ⟨rfl, hB10⟩
        go_wp2_with fail
        go_ret
        exact ⟨rfl, next hb9 hB10⟩
end Go.Proofs.YtndcanllkmfahaaDoor
