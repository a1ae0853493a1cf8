/- Contracts of the draws of a number of burners, and of spans with burners and a list.
   Conditions: the bounds in each statement. -/
import Derived.Test.YteloapholoechaaDoorDrawSpans
import Derived.Test.YteloapholoechaaDoorDrawSum
namespace Go.Proofs.YteloapholoechaaDoor
open Go.RowKit Go.ChangeShapes Go.WideShapes Go.ChangeAt Go.Deep

def DrewBurners (w : World) (b n : Nat) (e : Ending) (w' : World) : Prop := ∃ s : Int, e = .returned (.int .i64 s) ∧ -2 ≤ s ∧ s ≤ 6 ∧ Rd w' b (n + 3) ∧ w.grownBy w' (some b)

set_option maxRecDepth 100000 in
set_option maxHeartbeats 2000000 in
theorem l20Burners_any (b n : Nat) (w : World) (hR : Rd w b n) (hn : n ≤ 80000) :
    Calls Tryd.prog 77 #[.pointer (some ⟨b, 0, none⟩)] w (DrewBurners w b n) := by
  go_enter Tryd.func77, Tryd.ntmps77
  go_wp2_with fail
  refine (pick_any b n 3 _ hR (by omega) (by omega)).mono ?_
  rintro e w1 ⟨p1, rfl, h10, h11, hR1, hg1⟩
  have HG1 := hide hg1
  have h12 : p1 ≤ 2 := by omega
  clear hg1 hR
  go_wp2_with fail
  refine (pick_any b _ 30 _ hR1 (by omega) (by omega)).mono ?_
  rintro e w3 ⟨p3, rfl, h30, h31, hR3, hg3⟩
  have HG3 := hide (HG1.out.trans hg3)
  obtain ⟨t3, ht3, ht30, ht31⟩ := tdiv_one (p := p3) (d := 29) h30 (by omega) (by omega)
  have h32 : p3 ≤ 29 := by omega
  clear hg3 hR1 HG1
  go_wp2_with fail
  refine (pick_any b _ 30 _ hR3 (by omega) (by omega)).mono ?_
  rintro e w4 ⟨p4, rfl, h40, h41, hR4, hg4⟩
  have HG4 := hide (HG3.out.trans hg4)
  obtain ⟨t4, ht4, ht40, ht41⟩ := tdiv_one (p := p4) (d := 29) h40 (by omega) (by omega)
  have h42 : p4 ≤ 29 := by omega
  have HR4 := hide (hR4.mono (by omega : n + 1 + 1 + 1 ≤ n + 3))
  clear hg4 hR3 HG3 hR4
  go_wp2_with fail
  refine bodyPost_ret (results_tmp rfl _ _ _) rfl ⟨1 + p1 + t3 * 3 - t4 * 3, rfl, by omega, by omega, HR4.out, HG4.out⟩

def DrewBurn (w : World) (b : Nat) (e : Ending) (w' : World) : Prop := ∃ (xs os : List Int) (s : Int) (g c g2 c2 : Nat), e = .returned (.tuple #[.slice (some ⟨g, 0, none⟩) xs.length c, .int .i64 s, .slice (some ⟨g2, 0, none⟩) os.length c2]) ∧ IntSl w' w.heap.size (.slice (some ⟨g, 0, none⟩) xs.length c) xs ∧ IntSl w' w.heap.size (.slice (some ⟨g2, 0, none⟩) os.length c2) os ∧ xs.length ≤ 7 ∧ os.length ≤ 8 ∧ -2 ≤ s ∧ s ≤ 6 ∧ w.grownBy w' (some b)

set_option maxRecDepth 100000 in
set_option maxHeartbeats 4000000 in
theorem l20Burn_any (b n : Nat) (w : World) (hR : Rd w b n) (hn : n ≤ 70000) :
    Calls Tryd.prog 72 #[.pointer (some ⟨b, 0, none⟩)] w (DrewBurn w b) := by
  have hblt := hR.lt
  go_enter Tryd.func72, Tryd.ntmps72
  go_wp2_with fail
  refine (l20Spans_any b n 12 _ hR (by omega) (by omega)).mono ?_
  rintro e w1 ⟨xs, g, c, rfl, hS1, hl, hR1, hg1, -⟩
  have HS1 := hide hS1
  have HG1 := hide hg1
  have hgl1 := (IntSl.capI hS1).2.2.2
  clear hS1 hg1 hR
  go_wp2_with fail
  refine (l20Burners_any b _ _ hR1 (by omega)).mono ?_
  rintro e w2 ⟨s, rfl, hs0, hs1, hR2, hg2⟩
  have HS2 := hide (row_pickI HS1.out hblt hg2)
  have HG2 := hide (HG1.out.trans hg2)
  have hlt2 := hR2.lt
  have hz2 := HG2.out.size
  have hgl2 : g < w2.heap.size := (IntSl.capI HS2.out).2.2.2.2
  obtain ⟨mx, hmx⟩ : ∃ mx, max s 1 = mx := ⟨_, rfl⟩
  have hmx0 : 1 ≤ mx := by omega
  have hmx1 : mx ≤ 6 := by omega
  have HO : Hid (IntSl (w2.alloc (.cells #[] 3)) w2.heap.size (.slice (some ⟨w2.heap.size, 0, none⟩) 0 0) []) := hide (World.ownsRow_lit w2 #[] 0 (Nat.le_refl _) (by unfold maxLen; omega) rfl)
  have HRA : Hid (Rd (w2.alloc (.cells #[] 3)) b (n + 23)) := hide ((hR2.kept (fun j hj => heap_alloc_old w2 _ (by omega))).mono (by omega))
  have HGA : Hid (w2.grownBy (w2.alloc (.cells #[] 3)) (some b)) := hide (World.grownBy_alloc w2 _ _)
  clear hg2 hR1 hR2 HS1 HG1
  go_wp2_with fail
  go_loopw [7, 8] (fun v i wr => ∃ (k : Nat) (l : List Int) (L gp cp : Nat), k ≤ xs.length ∧ i = .int .i64 k ∧ L ≤ k ∧ v = .slice (some ⟨gp, 0, none⟩) L cp ∧ IntSl wr w2.heap.size (.slice (some ⟨gp, 0, none⟩) L cp) l ∧ Rd wr b (n + 23 + k) ∧ w2.grownBy wr (some b)) (fun _ i _ => xs.length - (intOf i).toNat)
  case atStart => exact ⟨0, [], 0, w2.heap.size, 0, Nat.zero_le _, rfl, Nat.le_refl _, rfl, HO.out, HRA.out, HGA.out⟩
  case round =>
    clear HO HRA HGA
    obtain ⟨k, l, L, gp, cp, hk, rfl, hLk, rfl, hS, hRr, hgr⟩ := hrel
    have HLL : Hid (l.length = L) := hide hS.capI.1
    have hlL : l.length ≤ L := Nat.le_of_eq HLL.out
    have HS := hide hS
    have HGR := hide hgr
    have hzr := hgr.size
    clear hS hgr
    by_cases hlt : k < xs.length
    · have hkz : (k : Int) < xs.length := by omega
      have hk0 : (0 : Int) ≤ k := by omega
      go_wp2_with fail
      refine (pick_any b _ mx _ hRr (by omega) (by omega)).mono ?_
      rintro e w6 ⟨p1, rfl, h10, h11, hR6, hg6⟩
      have HS6 := hide (row_pickI HS.out (by omega) hg6)
      have HG6 := hide (HGR.out.trans hg6)
      have HR6 := hide hR6
      have HLO := hide (World.ownsRow.lt HS6.out)
      have hz6 := HG6.out.size
      clear hg6 hRr hR6
      go_wp2_with (at_builtin; refine wpList_wantedI (by rfl) (wp_push_intI _ _ (by rfl) w2.heap.size (.slice (some ⟨gp, 0, none⟩) L cp) l (by rfl) (World.ownsRow.alloc HS6.out _) w6.heap.size p1 (by rfl) (heap_alloc_new w6 _) (by omega) (by simp; omega) ?_); intro g' cap w7 hown hgrow; have HOW := hide (And.intro hown (And.intro (rd_grownI (HR6.out.kept (fun j hj => heap_alloc_old w6 _ (by have := HR6.out.lt; omega))) hgrow (fun k hk => by have := (HLO.out k hk).1; omega)) (grown_rowI (HG6.out.trans (World.grownBy_alloc w6 _ _)) hgrow (fun k hk => (HLO.out k hk).1)))); clear hown hgrow)
      go_roundw
      case rel => exact ⟨k + 1, _, l.length + 1, g', cap, hlt, by go_num, by omega, by rfl, HOW.out.1, HOW.out.2.1.mono (by omega), HOW.out.2.2⟩
      case measure => simp [intOf]; omega
    · have hkz : ¬ (k : Int) < xs.length := by omega
      go_wp2_with fail
      refine (odd_any b _ 12 _ hRr (by omega) (by omega)).mono ?_
      rintro e w3 ⟨β, rfl, hR3, hg3⟩
      have HS3 := hide (row_pickI HS.out (by omega) hg3)
      have HG3 := hide (HGR.out.trans hg3)
      have hz3 := HG3.out.size
      clear hg3 HS HGR hR3 hRr
      cases β with
      | false =>
        have HX3 := hide (row_pickI HS2.out hblt HG3.out)
        have HP3 := hide (ownsRow_mono HS3.out hz2)
        have HGG := hide (HG2.out.trans HG3.out)
        go_wp2_with fail
        refine bodyPost_ret (results_tmp3 rfl _ _ _) rfl ⟨xs, l, s, g, c, gp, cp, by rw [HLL.out]; rfl, HX3.out, by rw [HLL.out]; exact HP3.out, hl, by omega, hs0, hs1, HGG.out⟩
      | true =>
        have HLO := hide (World.ownsRow.lt HS3.out)
        go_wp2_with (at_builtin; refine wpList_wantedI (by rfl) (wp_push_intI _ _ (by rfl) w2.heap.size (.slice (some ⟨gp, 0, none⟩) L cp) l (by rfl) (World.ownsRow.alloc HS3.out _) w3.heap.size s (by rfl) (heap_alloc_new w3 _) (by omega) (by simp; omega) ?_); intro g' cap w4 hown hgrow; have HGW := hide (grown_rowI (HG3.out.trans (World.grownBy_alloc w3 _ _)) hgrow (fun k hk => (HLO.out k hk).1)); have HOW := hide hown; clear hown hgrow)
        have HX4 := hide (row_pickI HS2.out hblt HGW.out)
        have HP4 := hide (ownsRow_mono HOW.out hz2)
        have HGG := hide (HG2.out.trans HGW.out)
        refine bodyPost_ret (results_tmp3 rfl _ _ _) rfl ⟨xs, l ++ [s], s, g, c, g', cap, by rw [List.length_append]; rfl, HX4.out, by rw [List.length_append]; exact HP4.out, hl, by rw [List.length_append]; simp; omega, hs0, hs1, HGG.out⟩
end Go.Proofs.YteloapholoechaaDoor
