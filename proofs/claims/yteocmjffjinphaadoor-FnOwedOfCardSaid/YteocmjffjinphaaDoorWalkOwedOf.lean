/- For all drawn bytes the law of OwedOf answers true, and its argument reads as it did.
   Conditions: none. -/
import Derived.Test.YteocmjffjinphaaDoorLawKit
import Derived.Test.YteocmjffjinphaaDoorDrawShares
import Derived.Test.YteocmjffjinphaaDoorOwedMath
import Derived.Test.YteocmjffjinphaaDoorLists
namespace Go.Proofs.YteocmjffjinphaaDoor
open Go.RowKit Go.ChangeShapes Go.WideShapes Go.ChangeAt

def DrawnOwedOf (w : World) (e : Ending) (w' : World) : Prop := ∃ (xs ps : List Int) (g c g2 c2 : Nat), e = .returned (.tuple #[.slice (some ⟨g, 0, none⟩) xs.length c, .slice (some ⟨g2, 0, none⟩) ps.length c2]) ∧ IntsAt w' (some ⟨g, 0, none⟩) xs ∧ IntsAt w' (some ⟨g2, 0, none⟩) ps ∧ xs.length ≤ 8 ∧ ps.length ≤ 9 ∧ Below w.heap.size w w'

set_option maxRecDepth 100000 in
set_option maxHeartbeats 4000000 in
theorem drawOwedOf_any (A : Option Addr) (c m : Nat) (w : World) (hB : BytesIn w A m) (hm : m ≤ 9223372036854775807) (hc : m ≤ c) (hc2 : c ≤ 9223372036854775807) :
    Calls Tryd.prog 49 #[.slice A m c] w (DrawnOwedOf w) := by
  go_enter Tryd.func49, Tryd.ntmps49
  go_wp2_with fail
  refine (open_any A c m w hB hm hc hc2).mono ?_
  rintro e w1 ⟨rfl, hR1, hb1⟩
  have hz1 := hb1.size
  have hlt1 := hR1.lt
  go_wp2_with fail
  refine (l20Shares_any w.heap.size 0 9 _ hR1 (by omega) (by omega)).mono ?_
  rintro e w2 ⟨xs, g, c2, rfl, hS2, hl, hR2, hg2, -⟩
  have hb2 : Below w.heap.size w w2 := hb1.grown hg2 hz1 (fun j hj => by injection hj with hj; omega)
  have HS2 := hide hS2
  have hz2 := hb2.size
  have hgl2 := (IntSl.capI hS2).2.2.2
  have hlt2 := hR2.lt
  clear hS2 hg2
  have HO : Hid (IntSl (w2.alloc (.cells #[] 3)) w2.heap.size (.slice (some ⟨w2.heap.size, 0, none⟩) 0 0) []) := hide (World.ownsRow_lit w2 #[] 0 (Nat.le_refl _) (by unfold maxLen; omega) rfl)
  have HRA : Hid (Rd (w2.alloc (.cells #[] 3)) w.heap.size (0 + 30)) := hide (hR2.kept (fun j hj => heap_alloc_old w2 _ (by omega)))
  have HGA : Hid (w2.grownBy (w2.alloc (.cells #[] 3)) (some w.heap.size)) := hide (World.grownBy_alloc w2 _ _)
  clear hR2
  go_wp2_with fail
  go_loopw [6, 7] (fun v i wr => ∃ (k : Nat) (l : List Int) (L gp cp : Nat), k ≤ xs.length ∧ i = .int .i64 k ∧ L ≤ k ∧ v = .slice (some ⟨gp, 0, none⟩) L cp ∧ IntSl wr w2.heap.size (.slice (some ⟨gp, 0, none⟩) L cp) l ∧ Rd wr w.heap.size (30 + 4 * k) ∧ w2.grownBy wr (some w.heap.size)) (fun _ i _ => xs.length - (intOf i).toNat)
  case atStart => exact ⟨0, [], 0, w2.heap.size, 0, Nat.zero_le _, rfl, Nat.le_refl _, rfl, HO.out, HRA.out.mono (by omega), HGA.out⟩
  case round =>
    clear HO HRA HGA
    obtain ⟨k, l, L, gp, cp, hk, rfl, hLk, rfl, hS, hRr, hgr⟩ := hrel
    have HLL : Hid (l.length = L) := hide hS.capI.1
    have hlL : l.length ≤ L := Nat.le_of_eq HLL.out
    have HS := hide hS
    have HGR := hide hgr
    have hzr := hgr.size
    clear hS hgr
    by_cases hlt : k < xs.length
    · have hkz : (k : Int) < xs.length := by omega
      have hk0 : (0 : Int) ≤ k := by omega
      go_wp2_with fail
      refine (pick_any w.heap.size _ 200 _ hRr (by omega) (by omega)).mono ?_
      rintro e w3 ⟨p1, rfl, h10, h11, hR3, hg3⟩
      have HS3 := hide (row_pickI HS.out (by omega) hg3)
      have HG3 := hide (HGR.out.trans hg3)
      have h12 : p1 ≤ 199 := by omega
      clear hg3 hRr
      go_wp2_with fail
      refine (pick_any w.heap.size _ 3 _ hR3 (by omega) (by omega)).mono ?_
      rintro e w4 ⟨p2, rfl, h20, h21, hR4, hg4⟩
      have HS4 := hide (row_pickI HS3.out (by omega) hg4)
      have HG4 := hide (HG3.out.trans hg4)
      have h22 : p2 ≤ 2 := by omega
      obtain ⟨hm0, hm1⟩ := mul_rng (p := p1) (q := p2) (P := 199) (Q := 2) h10 h12 h20 h22 (by omega)
      obtain ⟨M, hM⟩ : ∃ M, p1 * p2 = M := ⟨_, rfl⟩
      have hwM : IntKind.i64.wrap (p1 * p2) = M := (IntWalk.i64_in _ (by omega)).trans hM
      rw [hM] at hm0 hm1
      clear hg4 hR3 HS3 HG3
      go_wp2_with fail
      refine (pick_any w.heap.size _ 40 _ hR4 (by omega) (by omega)).mono ?_
      rintro e w5 ⟨p3, rfl, h30, h31, hR5, hg5⟩
      have HS5 := hide (row_pickI HS4.out (by omega) hg5)
      have HG5 := hide (HG4.out.trans hg5)
      obtain ⟨t3, ht3, ht30, ht31⟩ := tdiv_one (p := p3) (d := 39) h30 (by omega) (by omega)
      have h32 : p3 ≤ 39 := by omega
      clear hg5 hR4 HS4 HG4
      go_wp2_with fail
      refine (pick_any w.heap.size _ 40 _ hR5 (by omega) (by omega)).mono ?_
      rintro e w6 ⟨p4, rfl, h40, h41, hR6, hg6⟩
      have HS6 := hide (row_pickI HS5.out (by omega) hg6)
      have HG6 := hide (HG5.out.trans hg6)
      obtain ⟨t4, ht4, ht40, ht41⟩ := tdiv_one (p := p4) (d := 39) h40 (by omega) (by omega)
      have h42 : p4 ≤ 39 := by omega
      have HR6 := hide hR6
      have HLO := hide (World.ownsRow.lt HS6.out)
      have hz6 := HG6.out.size
      clear hg6 hR5 HS5 HG5 hR6
      go_wp2_with (at_builtin; refine wpList_wantedI (by rfl) (wp_push_intI _ _ (by rfl) w2.heap.size (.slice (some ⟨gp, 0, none⟩) L cp) l (by rfl) (World.ownsRow.alloc HS6.out _) w6.heap.size (M + t3 * 5000 - t4 * 600) (by rfl) (heap_alloc_new w6 _) (by omega) (by simp; omega) ?_); intro g' cap w7 hown hgrow; have HOW := hide (And.intro hown (And.intro (rd_grownI (HR6.out.kept (fun j hj => heap_alloc_old w6 _ (by have := HR6.out.lt; omega))) hgrow (fun k hk => by have := (HLO.out k hk).1; omega)) (grown_rowI (HG6.out.trans (World.grownBy_alloc w6 _ _)) hgrow (fun k hk => (HLO.out k hk).1)))); clear hown hgrow)
      go_roundw
      case rel => exact ⟨k + 1, _, l.length + 1, g', cap, hlt, by go_num, by omega, by rfl, HOW.out.1, HOW.out.2.1.mono (by omega), HOW.out.2.2⟩
      case measure => simp [intOf]; omega
    · have hkz : ¬ (k : Int) < xs.length := by omega
      go_wp2_with fail
      refine (odd_any w.heap.size _ 14 _ hRr (by omega) (by omega)).mono ?_
      rintro e w3 ⟨β, rfl, hR3, hg3⟩
      have HS3 := hide (row_pickI HS.out (by omega) hg3)
      have HG3 := hide (HGR.out.trans hg3)
      have hz3 := HG3.out.size
      clear hg3 HS HGR hR3 hRr
      cases β with
      | false =>
        have HB3 : Hid (Below w.heap.size w w3) := hide (hb2.grown HG3.out hz2 (fun j hj => by injection hj with hj; omega))
        have HIX : Hid (IntsAt w3 (some ⟨g, 0, none⟩) xs) := hide (IntSl.ints (row_pickI HS2.out hlt1 HG3.out))
        have HIP := hide (IntSl.ints HS3.out)
        go_wp2_with fail
        refine bodyPost_ret (results_tmp2 rfl _ _ _) rfl ⟨xs, l, g, c2, gp, cp, by rw [HLL.out]; rfl, HIX.out, HIP.out, hl, by omega, HB3.out⟩
      | true =>
        have HLO := hide (World.ownsRow.lt HS3.out)
        go_wp2_with (at_builtin; refine wpList_wantedI (by rfl) (wp_push_intI _ _ (by rfl) w2.heap.size (.slice (some ⟨gp, 0, none⟩) L cp) l (by rfl) (World.ownsRow.alloc HS3.out _) w3.heap.size 1 (by rfl) (heap_alloc_new w3 _) (by omega) (by simp; omega) ?_); intro g' cap w4 hown hgrow; have HGW := hide (grown_rowI (HG3.out.trans (World.grownBy_alloc w3 _ _)) hgrow (fun k hk => (HLO.out k hk).1)); have HOW := hide hown; clear hown hgrow)
        have HB4 : Hid (Below w.heap.size w w4) := hide (hb2.grown HGW.out hz2 (fun j hj => by injection hj with hj; omega))
        have HIX : Hid (IntsAt w4 (some ⟨g, 0, none⟩) xs) := hide (IntSl.ints (row_pickI HS2.out hlt1 HGW.out))
        have HIP := hide (IntSl.ints HOW.out)
        refine bodyPost_ret (results_tmp2 rfl _ _ _) rfl ⟨xs, l ++ [1], g, c2, g', cap, by rw [List.length_append]; rfl, HIX.out, HIP.out, hl, by rw [List.length_append]; simp; omega, HB4.out⟩

set_option maxRecDepth 100000 in
set_option maxHeartbeats 4000000 in
theorem lawOwedOf_any (A : Option Addr) (c m : Nat) (w : World) (hB : BytesIn w A m) (hc : m ≤ c) (hc2 : c ≤ 9223372036854775807) :
    Calls Tryd.prog 13 #[.slice A m c] w fun e w' => e = .returned (.bool true) ∧ Below w.heap.size w w' := by
  by_cases hlen : (1048576 : Int) < m
  · go_enter Tryd.func13, Tryd.ntmps13
    go_wp2_with fail
    go_ret
    exact ⟨rfl, by go_grown⟩
  · go_enter Tryd.func13, Tryd.ntmps13
    go_wp2_with fail
    refine (drawOwedOf_any A c m w hB (by omega) hc hc2).mono ?_
    rintro e w1 ⟨xs, ps, g, c1, g2, c2, rfl, hI, hJ, hl, hpl, hb1⟩
    have hl' : xs.length ≤ 1048576 := by omega
    have hp' : ps.length ≤ 1048576 := by omega
    have HI1 := hide hI
    have HJ1 := hide hJ
    obtain ⟨T, HT⟩ : ∃ T, Hid (owedOfL xs ps = T) := ⟨_, hide rfl⟩
    have hTl : T.length ≤ 1048576 := by
      rw [← HT.out]
      exact Nat.le_trans (owedOfL_len _ _) hl'
    clear hI hJ
    go_wp2_with fail
    refine (implOwedOf_any ⟨g, 0, none⟩ _ _ _ _ _ _ HI1.out hl' HJ1.out hp').mono ?_
    rintro e w2 ⟨v, rfl, hv, hB2⟩
    rw [HT.out] at hv
    obtain ⟨A2, k2, rfl, hI2, -⟩ := hv.form
    have hb2 := next hb1 hB2
    have HI2 := hide (HI1.out.below hB2)
    have HJ2 := hide (HJ1.out.below hB2)
    have HT2 := hide hI2
    clear hB2 hv hI2
    go_wp2_with fail
    refine (specOwedOf_any _ _ _ _ _ _ _ HI2.out hl' HJ2.out hp').mono ?_
    rintro e w3 ⟨v, rfl, hv, hB3⟩
    rw [HT.out] at hv
    obtain ⟨A3, k3, rfl, hI3, -⟩ := hv.form
    have hb3 := next hb2 hB3
    have HI3 := hide (HI2.out.below hB3)
    have HJ3 := hide (HJ2.out.below hB3)
    have HT3 := hide (HT2.out.below hB3)
    have HU3 := hide hI3
    clear hB3 hv hI3
    go_wp2_with fail
    refine (sameInts_same _ _ _ _ _ _ HT3.out HU3.out hTl).mono ?_
    rintro e w4 ⟨rfl, hB4⟩
    have hb4 := next hb3 hB4
    have HI4 := hide (HI3.out.below hB4)
    have HJ4 := hide (HJ3.out.below hB4)
    have HT4 := hide (HT3.out.below hB4)
    clear hB4 HI1 HI2 HI3 HJ1 HJ2 HJ3 HT2 HT3 HU3
    by_cases hT0 : T.length = 0
    · have hz : ((T.length : Int) == 0) = true := by rw [hT0]; rfl
      clear hT0
      go_wp2_with fail
      refine (alive_any _).mono ?_
      rintro e w5 ⟨rfl, hB5⟩
      go_wp2_with fail
      go_ret
      exact ⟨rfl, next hb4 hB5⟩
    · have hz : ((T.length : Int) == 0) = false := beq_false_of_ne (by omega)
      have hS := owed_said (xs := xs) (ps := ps) (by rw [HT.out]; omega)
      have HOK : Hid (owedOk T = true) := hide (by rw [← HT.out]; exact hS.ok)
      obtain ⟨F, HF⟩ : ∃ F, Hid (shareOfL xs (sumW ps) = F) := ⟨_, hide rfl⟩
      obtain ⟨Z, HZ⟩ : ∃ Z, Hid (tab xs.length (fun _ => (0 : Int)) = Z) := ⟨_, hide rfl⟩
      have HN : Hid (owedOfL xs F = Z) := hide (by rw [← HF.out, ← HZ.out]; exact hS.none)
      have hFl : F.length ≤ 1048576 := by rw [← HF.out, hS.len]; exact hl'
      have HZL : Hid (Z.length = xs.length) := hide (by rw [← HZ.out, tab_len])
      have hZ1 : Z.length ≤ xs.length := by rw [HZL.out]; exact Nat.le_refl _
      have hZ2 : xs.length ≤ Z.length := by rw [HZL.out]; exact Nat.le_refl _
      have HZAT := hide (fun (j : Nat) (h : j < xs.length) => show Z[j]? = some (0 : Int) by rw [← HZ.out]; exact tab_at h)
      have hzz : ((Z.length : Int) == (xs.length : Int)) = true := by rw [HZL.out]; simp
      clear hT0 hS
      go_wp2_with fail
      refine (lawSumI_any _ _ _ _ HJ4.out hp').mono ?_
      rintro e w5 ⟨rfl, rfl⟩
      go_wp2_with fail
      refine (implShareOf_any ⟨g, 0, none⟩ _ _ _ _ HI4.out hl').mono ?_
      rintro e w5 ⟨v, rfl, hv, hB5⟩
      rw [HF.out] at hv
      obtain ⟨A5, k5, rfl, hI5, -⟩ := hv.form
      have hb5 := next hb4 hB5
      have HI5 := hide (HI4.out.below hB5)
      have HT5 := hide (HT4.out.below hB5)
      have HF5 := hide hI5
      clear hB5 hv hI5 HI4 HJ4 HT4
      go_wp2_with fail
      refine (implOwedOf_any ⟨g, 0, none⟩ _ _ _ _ _ _ HI5.out hl' HF5.out hFl).mono ?_
      rintro e w6 ⟨v, rfl, hv, hB6⟩
      rw [HN.out] at hv
      obtain ⟨A6, k6, rfl, hI6, -⟩ := hv.form
      have hb6 := next hb5 hB6
      have HT6 := hide (HT5.out.below hB6)
      have HZ6 := hide hI6
      clear hB6 hv hI6 HI5 HF5 HT5
      go_wp2_with fail
      go_loopw [8] (fun iv wr => ∃ j : Nat, j ≤ xs.length ∧ iv = .int .i64 j ∧ Below w6.heap.size w6 wr) (fun iv _ => xs.length - (intOf iv).toNat)
      case atStart => exact ⟨0, Nat.zero_le _, rfl, Below.refl _ _⟩
      case round =>
        obtain ⟨j, hj, rfl, hd⟩ := hrel
        have hb := next hb6 hd
        by_cases hlt : j < xs.length
        · obtain ⟨b, off, rfl, hbl, hc1⟩ := (HZ6.out.below hd) j 0 (HZAT.out j hlt)
          have hy0 : (0 : Int) ≤ j := by omega
          have hy1 : (j : Int) < Z.length := by omega
          go_wp2_with fail
          go_roundw
          case rel => exact ⟨j + 1, hlt, by go_num, hd⟩
          case measure => simp [intOf]; omega
        · have hy1 : ¬ (j : Int) < Z.length := by omega
          have HT7 := hide (HT6.out.below hd)
          go_wp2_with fail
          refine (implOwedValid_any _ _ _ _ HT7.out hTl).mono ?_
          rintro e w7 ⟨rfl, hB7⟩
          rw [HOK.out]
          go_wp2_with fail
          go_ret
          exact ⟨rfl, next hb hB7⟩
end Go.Proofs.YteocmjffjinphaaDoor
