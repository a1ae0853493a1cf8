/- For all drawn bytes the law of SharesValid answers true, and its argument reads as it did.
   Conditions: none. -/
import Derived.Test.YteocmjffjinphaaDoorLawKit
import Derived.Test.YteocmjffjinphaaDoorDrawShares
import Derived.Test.YteocmjffjinphaaDoorBills
namespace Go.Proofs.YteocmjffjinphaaDoor
open Go.RowKit Go.ChangeShapes Go.WideShapes Go.ChangeAt

theorem shares_zeros {n : Nat} (h : n ≤ 8) : sharesOk (tab n (fun _ => 0)) = false := by
  rcases (by omega : n = 0 ∨ n = 1 ∨ n = 2 ∨ n = 3 ∨ n = 4 ∨ n = 5 ∨ n = 6 ∨ n = 7 ∨ n = 8) with rfl | rfl | rfl | rfl | rfl | rfl | rfl | rfl | rfl <;> decide +kernel
theorem shares_ones {n : Nat} (h1 : 1 ≤ n) (h7 : n ≤ 7) : sharesOk (tab n (fun _ => 1)) = true := by
  rcases (by omega : n = 1 ∨ n = 2 ∨ n = 3 ∨ n = 4 ∨ n = 5 ∨ n = 6 ∨ n = 7) with rfl | rfl | rfl | rfl | rfl | rfl | rfl <;> decide +kernel
theorem implSharesValid_at (A : Option Addr) (c n : Nat) (l : List Int) (b : Bool) (w : World) (hn : l.length = n) (hb : Hid (sharesOk l = b)) (hA : IntsAt w A l) (hl : n ≤ 1048576) :
    Calls Tryd.prog 38 #[.slice A n c] w fun e w' => e = .returned (.bool b) ∧ Below w.heap.size w w' := by
  subst hn
  have := implSharesValid_any A c l w hA hl
  rwa [hb.out] at this

set_option maxHeartbeats 1000000 in
theorem drawSharesValid_any (A : Option Addr) (c m : Nat) (w : World) (hB : BytesIn w A m) (hm : m ≤ 9223372036854775807) (hc : m ≤ c) (hc2 : c ≤ 9223372036854775807) :
    Calls Tryd.prog 37 #[.slice A m c] w (DrawnIG 100 8 w) := by
  go_enter Tryd.func37, Tryd.ntmps37
  go_wp2_with fail
  refine (open_any A c m w hB hm hc hc2).mono ?_
  rintro e w1 ⟨rfl, hR1, hb1⟩
  have hz1 := hb1.size
  go_wp2_with fail
  refine (l20Shares_any w.heap.size 0 2 _ hR1 (by omega) (by omega)).mono ?_
  rintro e w2 ⟨ls, g, c2, rfl, hS2, hl, hR2, hg2, hX⟩
  have hb2 : Below w.heap.size w w2 := hb1.grown hg2 hz1 (fun j hj => by injection hj with hj; omega)
  have HI := hide hS2.ints
  have HX := hide hX
  have hgl := (IntSl.capI hS2).2.2.2.2
  clear hS2 hg2 hX
  go_wp2_with fail
  refine bodyPost_ret (results_tmp rfl _ _ _) rfl ⟨ls, g, c2, rfl, HI.out, hl, hgl, HX, hb2⟩

set_option maxRecDepth 100000 in
set_option maxHeartbeats 4000000 in
theorem lawSharesValid_any (A : Option Addr) (c m : Nat) (w : World) (hB : BytesIn w A m) (hc : m ≤ c) (hc2 : c ≤ 9223372036854775807) :
    Calls Tryd.prog 9 #[.slice A m c] w fun e w' => e = .returned (.bool true) ∧ Below w.heap.size w w' := by
  by_cases hlen : (1048576 : Int) < m
  · go_enter Tryd.func9, Tryd.ntmps9
    go_wp2_with fail
    go_ret
    exact ⟨rfl, by go_grown⟩
  · go_enter Tryd.func9, Tryd.ntmps9
    go_wp2_with fail
    refine (drawSharesValid_any A c m w hB (by omega) hc hc2).mono ?_
    rintro e w1 ⟨xs, g, c1, rfl, hI, hl, -, -, hb1⟩
    have hl' : xs.length ≤ 1048576 := by omega
    have HI := hide hI
    clear hI
    obtain ⟨v, HV⟩ : ∃ v, Hid (sharesOk xs = v) := ⟨_, hide rfl⟩
    have hbb : (v != v) = false := by simp
    go_wp2_with fail
    refine (implSharesValid_any _ _ _ _ HI.out hl').mono ?_
    rintro e w2 ⟨rfl, hB2⟩
    have hb2 := next hb1 hB2
    have HI2 := hide (HI.out.below hB2)
    rw [HV.out]
    clear hB2 HI
    go_wp2_with fail
    refine (specSharesValid_any _ _ _ _ HI2.out hl').mono ?_
    rintro e w3 ⟨rfl, hB3⟩
    have hb3 := next hb2 hB3
    rw [HV.out]
    clear hB3 HI2
    have HS0 : Hid (IntSl (w3.alloc (.cells #[] 3)) w3.heap.size (.slice (some ⟨w3.heap.size, 0, none⟩) 0 0) []) := hide (World.ownsRow_lit w3 #[] 0 (Nat.le_refl _) (by unfold maxLen; omega) rfl)
    go_wp2_with fail
    go_loopw [5, 6] (fun pv iv wr => ∃ (k L g cc : Nat) (P : List Int), k ≤ xs.length ∧ iv = .int .i64 k ∧ pv = .slice (some ⟨g, 0, none⟩) L cc ∧ Hid (L = k ∧ P = tab k (fun _ => 1)) ∧ IntSl wr w3.heap.size (.slice (some ⟨g, 0, none⟩) L cc) P ∧ Below w3.heap.size w3 wr) (fun _ iv _ => xs.length - (intOf iv).toNat)
    case atStart => exact ⟨0, 0, w3.heap.size, 0, [], Nat.zero_le _, rfl, rfl, hide ⟨rfl, rfl⟩, HS0.out, by go_grown⟩
    case round =>
      obtain ⟨k, L, g, cc, P, hk, rfl, rfl, HLK, hS, hd⟩ := hrel
      have HS := hide hS
      have hb := next hb3 hd
      have hsz := hd.size
      have HLO := hide (World.ownsRow.lt HS.out)
      clear hS
      by_cases hlt : k < xs.length
      · have hy : (0 : Int) ≤ k := by omega
        have hy2 : (k : Int) < xs.length := by omega
        have HPn : Hid (P.length = k) := hide (by rw [HLK.out.2, tab_len])
        have HPS : Hid (P ++ [1] = tab (k + 1) (fun _ => 1)) := hide (by rw [HLK.out.2, ← tab_snoc])
        have hPl : P.length ≤ 1048576 := by rw [HPn.out]; omega
        go_wp2_with (at_builtin; refine wpList_wantedI (by rfl) (wp_push_intI _ _ (by rfl) w3.heap.size (.slice (some ⟨g, 0, none⟩) L cc) P (by rfl) (World.ownsRow.alloc HS.out _) wr.heap.size 1 (by rfl) (heap_alloc_new wr _) hPl (by simp; omega) ?_); intro g' cap w5 hown hgrow; have HOW := hide hown; have HD5 : Hid (Below w3.heap.size w3 w5) := hide ((show Below w3.heap.size w3 (wr.alloc (.cells #[.int .i64 1] 3)) from by go_grown).grown hgrow (by simp; omega) (fun k hk => (HLO.out k hk).1)); clear hown hgrow)
        go_roundw
        case rel => exact ⟨k + 1, P.length + 1, g', cap, _, hlt, by go_num, rfl, hide ⟨by rw [HPn.out], HPS.out⟩, HOW.out, HD5.out⟩
        case measure => simp [intOf]; omega
      · have hy2 : ¬ (k : Int) < xs.length := by omega
        have hmk := make_ints xs.length hl'
        have HZI := hide (zeros_tabG wr (lo := wr.heap.size) xs.length (Nat.le_refl _) hl').ints
        have hsz9 := hb.size
        have HPI := hide (IntSl.ints HS.out)
        have HPn : Hid (P.length = L) := hide (by rw [HLK.out.2, tab_len, HLK.out.1])
        go_wp2_with fail
        refine (implSharesValid_at _ _ _ (tab xs.length (fun _ => 0)) false _ (tab_len _ _) (hide (shares_zeros hl)) HZI.out hl').mono ?_
        rintro e w4 ⟨rfl, hB4⟩
        have hb4 : Below w.heap.size w w4 := next (wr := wr.alloc (.cells (madeCells #[.int .i64 0] xs.length) 3)) (by go_grown) hB4
        have HPI4 := hide ((HPI.out.below (w' := wr.alloc (.cells (madeCells #[.int .i64 0] xs.length) 3)) (by go_grown)).below hB4)
        clear hB4 hmk HZI
        cases v with
        | false =>
          go_wp2_with fail
          refine (alive_any _).mono ?_
          rintro e w6 ⟨rfl, hB6⟩
          go_wp2_with fail
          go_ret
          exact ⟨rfl, next hb4 hB6⟩
        | true =>
          have h17 := sharesOk_len HV.out
          go_wp2_with fail
          refine (implSharesValid_at _ _ _ P true _ HPn.out (hide (by rw [HLK.out.2]; exact shares_ones (by omega) (by omega))) HPI4.out (by rw [← HPn.out, HLK.out.2, tab_len]; omega)).mono ?_
          rintro e w5 ⟨rfl, hB5⟩
          have hb5 := next hb4 hB5
          go_wp2_with fail
          refine (alive_any _).mono ?_
          rintro e w6 ⟨rfl, hB6⟩
          go_wp2_with fail
          go_ret
          exact ⟨rfl, next hb5 hB6⟩
end Go.Proofs.YteocmjffjinphaaDoor
