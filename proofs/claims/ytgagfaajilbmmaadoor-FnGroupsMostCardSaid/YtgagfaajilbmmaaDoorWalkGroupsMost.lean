/- For all drawn bytes the law of GroupsMost answers true, and its argument reads as it did.
   Conditions: none. -/
import Derived.Test.YtgagfaajilbmmaaDoorLawKit
import Derived.Test.YtgagfaajilbmmaaDoorDrawOwed
import Derived.Test.YtgagfaajilbmmaaDoorGrpImpl
import Derived.Test.YtgagfaajilbmmaaDoorGrpSpec
namespace Go.Proofs.YtgagfaajilbmmaaDoor
open Go.RowKit Go.ChangeShapes Go.WideShapes Go.ChangeAt Go.Deep

set_option maxHeartbeats 1000000 in
theorem drawGroupsMost_any (A : Option Addr) (c m : Nat) (w : World) (hB : BytesIn w A m) (hm : m ≤ 9223372036854775807) (hc : m ≤ c) (hc2 : c ≤ 9223372036854775807) :
    Calls Tryd.prog 39 #[.slice A m c] w (DrawnIG 100000 8 w) := by
  go_enter Tryd.func39, Tryd.ntmps39
  go_wp2_with fail
  refine (open_any A c m w hB hm hc hc2).mono ?_
  rintro e w1 ⟨rfl, hR1, hb1⟩
  have hz1 := hb1.size
  go_wp2_with fail
  refine (l20Owed_any w.heap.size 0 9 _ hR1 (by omega) (by omega)).mono ?_
  rintro e w2 ⟨ls, g, c2, rfl, hS2, hl, hR2, hg2, hX⟩
  have hb2 : Below w.heap.size w w2 := hb1.grown hg2 hz1 (fun j hj => by injection hj with hj; omega)
  have HI := hide hS2.ints
  have HX := hide hX
  have hgl := (IntSl.capI hS2).2.2.2.2
  clear hS2 hg2 hX
  go_wp2_with fail
  refine bodyPost_ret (results_tmp rfl _ _ _) rfl ⟨ls, g, c2, rfl, HI.out, hl, hgl, HX, hb2⟩

set_option maxRecDepth 100000 in
set_option maxHeartbeats 4000000 in
theorem lawGroupsMost_any (A : Option Addr) (c m : Nat) (w : World) (hB : BytesIn w A m) (hc : m ≤ c) (hc2 : c ≤ 9223372036854775807) :
    Calls Tryd.prog 9 #[.slice A m c] w fun e w' => e = .returned (.bool true) ∧ Below w.heap.size w w' := by
  by_cases hlen : (1048576 : Int) < m
  · go_enter Tryd.func9, Tryd.ntmps9
    go_wp2_with fail
    go_ret
    exact ⟨rfl, by go_grown⟩
  · go_enter Tryd.func9, Tryd.ntmps9
    go_wp2_with fail
    refine (drawGroupsMost_any A c m w hB (by omega) hc hc2).mono ?_
    rintro e w1 ⟨xs, g, c1, rfl, hI, hl, -, -, hb1⟩
    have hl' : xs.length ≤ 1048576 := by omega
    have HI1 := hide hI
    clear hI
    obtain ⟨q, HQ⟩ : ∃ q, Hid (groupsMostL xs = q) := ⟨_, hide rfl⟩
    have hqq : (q != q) = false := by simp
    go_wp2_with fail
    refine (implGroupsMost_any _ _ _ _ HI1.out hl').mono ?_
    rintro e w2 ⟨rfl, hB2⟩
    rw [HQ.out]
    have hb2 := next hb1 hB2
    have HI2 := hide (HI1.out.below hB2)
    clear hB2
    go_wp2_with fail
    refine (specGroupsMost_any _ _ _ _ HI2.out hl').mono ?_
    rintro e w3 ⟨rfl, hB3⟩
    rw [HQ.out]
    have hb3 := next hb2 hB3
    have HI3 := hide (HI2.out.below hB3)
    clear hB3 HI1 HI2
    cases hok : owedOk xs with
    | false =>
      have hq : q = -1 := by rw [← HQ.out]; unfold groupsMostL; rw [hok]; rfl
      subst hq
      clear hok
      go_wp2_with fail
      refine (alive_any _).mono ?_
      rintro e w6 ⟨rfl, hB6⟩
      go_wp2_with fail
      go_ret
      exact ⟨rfl, next hb3 hB6⟩
    | true =>
      have hqm : q = gMost xs := by rw [← HQ.out]; unfold groupsMostL; rw [if_pos hok]
      have hq0 : 0 ≤ q := by rw [hqm]; exact gMost_nonneg hok
      have HHALF : Hid (2 * q ≤ nz xs) := hide (by rw [hqm]; exact gMost_half hok)
      have HSOME : Hid (0 < nz xs → 1 ≤ q) := hide (by rw [hqm]; exact gMost_some hok)
      have h7 := owedOk_len hok
      have hq7 : q ≤ 7 := by have := HHALF.out; have := nz_len xs; omega
      obtain ⟨r, HRR⟩ : ∃ r, Hid (groupsMostL (xs ++ [5, -5]) = r) := ⟨_, hide rfl⟩
      have hr : r = -1 ∨ q + 1 ≤ r := by
        cases ho2 : owedOk (xs ++ [5, -5]) with
        | false => exact .inl (by rw [← HRR.out]; unfold groupsMostL; rw [ho2]; rfl)
        | true => exact .inr (by rw [← HRR.out, ← HQ.out]; exact groups_pair hok ho2)
      have HR2 := hide hr
      clear hok hqm hr
      go_wp2_with fail
      go_loopw [5, 6] (fun nv iv wr => ∃ (k n : Nat), k ≤ xs.length ∧ iv = .int .i64 k ∧ nv = .int .i64 n ∧ n ≤ k ∧ Hid (nz (xs.take k) = n) ∧ Below w3.heap.size w3 wr) (fun _ iv _ => xs.length - (intOf iv).toNat)
      case atStart => exact ⟨0, 0, Nat.zero_le _, rfl, rfl, Nat.le_refl _, hide rfl, Below.refl _ _⟩
      case round =>
        obtain ⟨k, n, hk, rfl, rfl, hnk, HNZ, hd⟩ := hrel
        have hb := next hb3 hd
        by_cases hlt : k < xs.length
        · obtain ⟨b, off, hDD, hbl, hc1⟩ := (HI3.out.below hd) k xs[k] (List.getElem?_eq_getElem hlt)
          injection hDD with hDD
          injection hDD with e1 e2
          subst e1 e2
          rw [Nat.zero_add] at hc1
          have HTK := hide (nz_take (List.getElem?_eq_getElem hlt))
          have hy0 : (0 : Int) ≤ k := by omega
          have hy1 : (k : Int) < xs.length := by omega
          generalize xs[k] = x at *
          by_cases hx0 : x = 0
          · have hxb : (x != 0) = false := by rw [hx0]; rfl
            have HNX : Hid (nz (xs.take (k + 1)) = n) := hide (by rw [HTK.out, HNZ.out, hxb]; rfl)
            clear hx0
            go_wp2_with fail
            go_roundw
            case rel => exact ⟨k + 1, n, hlt, by go_num, rfl, by omega, HNX, hd⟩
            case measure => simp [intOf]; omega
          · have hxb : (x != 0) = true := by simpa using hx0
            have HNX : Hid (nz (xs.take (k + 1)) = n + 1) := hide (by rw [HTK.out, HNZ.out, hxb]; rfl)
            clear hx0
            go_wp2_with fail
            go_roundw
            case rel => exact ⟨k + 1, n + 1, hlt, by go_num, by go_num, by omega, HNX, hd⟩
            case measure => simp [intOf]; omega
        · have hy1 : ¬ (k : Int) < xs.length := by omega
          have HNZ2 : Hid (nz xs = n) := hide (by rw [← HNZ.out, List.take_of_length_le (by omega)])
          have hhalf := HHALF.out
          have hsome := HSOME.out
          rw [HNZ2.out] at hhalf hsome
          have hsz := hb.size
          have HI6 := hide (HI3.out.below hd)
          have HO : Hid (IntSl (wr.alloc (.cells #[] 3)) wr.heap.size (.slice (some ⟨wr.heap.size, 0, none⟩) 0 0) []) := hide (World.ownsRow_lit wr #[] 0 (Nat.le_refl _) (by unfold maxLen; omega) rfl)
          have HI7 := hide (HI6.out.below (w' := wr.alloc (.cells #[] 3)) (by go_grown))
          have hk2 : n ≤ 7 := by omega
          have hn0 : (0 : Int) ≤ n := by omega
          have hcase : (n = 0 ∧ q = 0) ∨ (0 < n ∧ 0 < q) := by
            rcases Nat.eq_zero_or_pos n with e | e
            · exact .inl ⟨e, by omega⟩
            · exact .inr ⟨e, by have := hsome e; omega⟩
          have HCASE := hide hcase
          have hr5 := HR2.out
          clear hcase hsome
          go_wp2_with (at_builtin; first
            | (refine wpList_spread_int rfl _ _ rfl wr.heap.size (.slice (some ⟨wr.heap.size, 0, none⟩) 0 0) [] rfl HO.out (by simp) ⟨g, 0, none⟩ xs.length c1 xs rfl rfl HI7.out (by simp; omega) (by simp) ?_
               intro g5 c5 w5 hown hgrow
               have HB5 : Hid (Below wr.heap.size wr w5) := hide (((Below.refl _ wr).alloc (Nat.le_refl _) _).grown hgrow (by simp) (by intro k hk; simp [Value.ownBlock] at hk; omega))
               simp only [List.length_nil, Nat.zero_add, List.nil_append] at hown
               rw [show ([] : List Int).length + xs.length = xs.length from by simp]
               have HS5 := hide hown
               have HB5s := hide HB5.out.size
               have HS5a := hide (World.ownsRow.alloc hown (.cells #[.int .i64 5, .int .i64 (-5)] 3))
               have HL5 : Hid (IntSl (w5.alloc (.cells #[.int .i64 5, .int .i64 (-5)] 3)) w5.heap.size (.slice (some ⟨w5.heap.size, 0, none⟩) 2 2) [5, -5]) := hide (World.ownsRow_lit w5 #[.int .i64 5, .int .i64 (-5)] 2 (Nat.le_refl _) (by unfold maxLen; omega) rfl)
               have HL5i := hide (IntSl.ints HL5.out)
               clear hown hgrow)
            | (refine wpList_spread_int rfl _ _ rfl wr.heap.size (.slice (some ⟨g5, 0, none⟩) xs.length c5) xs rfl HS5a.out (by simp) ⟨w5.heap.size, 0, none⟩ 2 2 [5, -5] rfl rfl HL5i.out (by omega) (by have := HB5s.out; simp; omega) ?_
               intro g6 c6 w6 hown hgrow
               have HB6 : Hid (Below wr.heap.size wr w6) := hide ((HB5.out.alloc HB5s.out _).grown hgrow (by have := HB5s.out; simp; omega) (fun j hj => (World.ownsRow.lt HS5.out j hj).1))
               have HS6 := hide hown
               clear hown hgrow))
          have hpr := implGroupsMost_any (some ⟨g6, 0, none⟩) c6 (xs ++ [5, -5]) w6 HS6.out.ints (by simp; omega)
          rw [HRR.out, List.length_append] at hpr
          refine hpr.mono ?_
          rintro e w7 ⟨rfl, hB7⟩
          have hb7 : Below w.heap.size w w7 := next (next hb HB6.out) hB7
          clear hpr hB7
          rcases HCASE.out with ⟨rfl, rfl⟩ | ⟨hc1, hc2⟩
          · rcases hr5 with rfl | hr5
            · go_wp2_with fail
              go_ret
              exact ⟨rfl, hb7⟩
            · have hr6 : decide (r < 0) = false := decide_eq_false (by omega)
              have hr7 : decide (1 ≤ r) = true := decide_eq_true (by omega)
              go_wp2_with fail
              go_ret
              exact ⟨rfl, hb7⟩
          · have hc3 : (0 : Int) < n := by omega
            rcases hr5 with rfl | hr5
            · go_wp2_with fail
              go_ret
              exact ⟨rfl, hb7⟩
            · have hr6 : decide (r < 0) = false := decide_eq_false (by omega)
              have hr7 : decide (q + 1 ≤ r) = true := decide_eq_true (by omega)
              go_wp2_with fail
              go_ret
              exact ⟨rfl, hb7⟩
end Go.Proofs.YtgagfaajilbmmaaDoor
