/- Contract of the draw of dishes.
   Conditions: the bounds in each statement. -/
import Derived.Test.YteloapholoechaaDoorSpreadD
namespace Go.Proofs.YteloapholoechaaDoor
open Go.RowKit Go.ChangeShapes Go.WideShapes Go.ChangeAt Go.Deep

def DrewD (w : World) (b n : Nat) (e : Ending) (w' : World) : Prop := ∃ (ls : List Dish) (g c : Nat), e = .returned (.slice (some ⟨g, 0, none⟩) ls.length c) ∧ DishSl w' w.heap.size (.slice (some ⟨g, 0, none⟩) ls.length c) ls ∧ ls.length ≤ 7 ∧ Rd w' b n ∧ w.grownBy w' (some b)

set_option maxRecDepth 100000 in
set_option maxHeartbeats 4000000 in
theorem l20Dishes_any (b n : Nat) (k : Int) (w : World) (hR : Rd w b n) (hn : n ≤ 80000) (hk : k ≤ 1000000) :
    Calls Tryd.prog 65 #[.pointer (some ⟨b, 0, none⟩), .int .i64 k] w (DrewD w b (n + 24)) := by
  have hblt := hR.lt
  have HO : Hid (DishSl (w.alloc (.cells #[] 30)) w.heap.size (.slice (some ⟨w.heap.size, 0, none⟩) 0 0) []) := hide (World.ownsRow_lit w #[] 0 (Nat.le_refl _) (by unfold maxLen; omega) rfl)
  have HRA : Hid (Rd (w.alloc (.cells #[] 30)) b n) := hide (hR.kept (fun j hj => heap_alloc_old w _ (by omega)))
  have HGA : Hid (w.grownBy (w.alloc (.cells #[] 30)) (some b)) := hide (World.grownBy_alloc w _ _)
  go_enter Tryd.func65, Tryd.ntmps65
  go_wp2_with fail
  refine (pick_any b n 7 _ HRA.out (by omega) (by omega)).mono ?_
  rintro e w1 ⟨q, rfl, hq0, hq1, hR1, hgw1⟩
  have HS1 : Hid (DishSl w1 w.heap.size (.slice (some ⟨w.heap.size, 0, none⟩) 0 0) []) := hide (row_pickI HO.out hblt hgw1)
  have HG1 : Hid (w.grownBy w1 (some b)) := hide (HGA.out.trans hgw1)
  have HR1 := hide hR1
  have hq6 : q ≤ 6 := by omega
  clear hgw1 hR1 HO HRA HGA hR
  go_wp2_with fail
  go_loopw [5, 6] (fun v i wr => ∃ (j : Nat) (l : List Dish) (L g c : Nat), j ≤ 6 ∧ i = .int .i64 j ∧ L + j ≤ 6 ∧ v = .slice (some ⟨g, 0, none⟩) L c ∧ DishSl wr w.heap.size (.slice (some ⟨g, 0, none⟩) L c) l ∧ Rd wr b (n + 1 + 2 * L) ∧ w.grownBy wr (some b)) (fun _ i _ => (intOf i).toNat)
  case atStart => exact ⟨q.toNat, [], 0, w.heap.size, 0, by omega, by rw [Int.toNat_of_nonneg hq0], by omega, rfl, HS1.out, HR1.out, HG1.out⟩
  case round =>
    clear HS1 HG1 HR1
    obtain ⟨j, l, L, g, c, hj, rfl, hlj, rfl, hS, hRr, hgr⟩ := hrel
    have HLL : Hid (l.length = L) := hide hS.capD.1
    have hlL : l.length ≤ L := Nat.le_of_eq HLL.out
    have HS := hide hS
    have HGR := hide hgr
    have hzr := hgr.size
    clear hS hgr
    by_cases hj0 : 0 < j
    · have hjz : (0 : Int) < j := by omega
      go_wp2_with fail
      refine (pick_any b _ 12 _ hRr (by omega) (by omega)).mono ?_
      rintro e w2 ⟨q2, rfl, hq20, hq21, hR2, hg2⟩
      have HS2 := hide (row_pickI HS.out (by omega) hg2)
      have HG2 := hide (HGR.out.trans hg2)
      clear hg2
      go_wp2_with fail
      refine (pick_any b _ 12 _ hR2 (by omega) (by omega)).mono ?_
      rintro e w3 ⟨q3, rfl, hq30, hq31, hR3, hg3⟩
      have HS3 := hide (row_pickI HS2.out (by omega) hg3)
      have HG3 := hide (HG2.out.trans hg3)
      have HLO := hide (World.ownsRow.lt HS3.out)
      have hz3 := HG3.out.size
      have HR3 := hide hR3
      clear hg3 hR3 hR2 HS2 HG2
      go_wp2_with (at_builtin; refine wpList_wantedI (by rfl) (wp_push_dish _ _ (by rfl) w.heap.size (.slice (some ⟨g, 0, none⟩) L c) l (by rfl) (World.ownsRow.alloc HS3.out _) w3.heap.size ⟨q2, q3⟩ (by rfl) (heap_alloc_new w3 _) (by omega) (by simp; omega) ?_); intro g' cap w4 hown hgrow; have HOW := hide (And.intro hown (And.intro (rd_grownI (HR3.out.kept (fun j hj => heap_alloc_old w3 _ (by have := HR3.out.lt; omega))) hgrow (fun k hk => by have := (HLO.out k hk).1; omega)) (grown_rowI (HG3.out.trans (World.grownBy_alloc w3 _ _)) hgrow (fun k hk => (HLO.out k hk).1)))); clear hown hgrow)
      go_roundw
      case rel =>
        obtain ⟨j', rfl⟩ : ∃ j', j = j' + 1 := ⟨j - 1, by omega⟩
        exact ⟨j', l ++ [⟨q2, q3⟩], l.length + 1, g', cap, by omega, by go_num, by omega, by rfl, HOW.out.1, HOW.out.2.1.mono (by rw [HLL.out]; omega), HOW.out.2.2⟩
      case measure => simp [intOf]; omega
    · obtain rfl : j = 0 := by omega
      go_wp2_with fail
      refine (odd_any b _ k _ hRr (by omega) hk).mono ?_
      rintro e w2 ⟨β, rfl, hR2, hg2⟩
      have HS2 := hide (row_pickI HS.out hblt hg2)
      have HG2 := hide (HGR.out.trans hg2)
      have HR2 := hide hR2
      clear hg2 HS HGR hR2 hRr
      cases β with
      | false =>
        go_wp2_with fail
        refine bodyPost_ret (results_tmp rfl _ _ _) rfl ⟨l, g, c, by rw [HLL.out]; rfl, by rw [HLL.out]; exact HS2.out, by omega, HR2.out.mono (by omega), HG2.out⟩
      | true =>
        go_wp2_with fail
        refine (pick_any b _ 3 _ HR2.out (by omega) (by omega)).mono ?_
        rintro e w3 ⟨q3, rfl, hq30, hq31, hR3, hg3⟩
        have HS3 := hide (row_pickI HS2.out hblt hg3)
        have HG3 := hide (HG2.out.trans hg3)
        have HR3 := hide hR3
        have hz3 := HG3.out.size
        have hl3 := hR3.lt
        clear hg3 HS2 HG2 HR2 hR3
        by_cases hq : q3 = 0
        · subst hq
          have hmk : ∀ w, (Instr.makeSlice 23 (.int .i64 7) (.int .i64 7)).run Tryd.prog w = .ok (.slice (some ⟨w.heap.size, 0, none⟩) 7 7) (w.alloc (.cells (madeCells #[.int .i64 0, .int .i64 0] 14) 30)) := fun w => make_dishes 7 (by omega) w
          go_wp2_with fail
          refine bodyPost_ret (results_tmp rfl _ _ _) rfl ⟨List.replicate 7 ⟨0, 0⟩, w3.heap.size, 7, rfl, seven_dishes w3 _ hz3, by simp, (HR3.out.kept (fun j hj => heap_alloc_old w3 _ (by omega))).mono (by omega), HG3.out.trans (World.grownBy_alloc w3 _ _)⟩
        · have hqb : (q3 == 0) = false := beq_false_of_ne hq
          have HPK : Hid (∀ W, Below w3.heap.size w3 W → Calls Tryd.prog 81 #[.pointer (some ⟨b, 0, none⟩), .int .i64 2] W (Picked W b (n + 20) 2)) := hide (fun W hB => pick_any b _ 2 W ((rd_belowI HR3.out hB).mono (by omega)) (by omega) (by omega))
          obtain ⟨M, A9, L9, c9, hmin, hsl1, hsl2, hA9, hrl9⟩ := tail_sliceD HS3.out
          have HA9 := hide hA9
          have HRL := hide hrl9
          have hL95 : L9 ≤ 6 := by rw [← hrl9, List.length_drop]; omega
          clear hA9 hrl9
          by_cases hq1 : q3 = 1
          · subst hq1
            go_wp2_with fail
            go_region_law (first | (refine step_spread_dish (by rfl) _ _ (by rfl) w.heap.size (.slice (some ⟨w5.heap.size, 0, none⟩) 1 1) [⟨u5, 0⟩] (by rfl) (dish_lit (heap_alloc_new w5 _) hz5) (by simp) A9 L9 c9 (l.drop 1) HRL.out (by rfl) (HA9.out _ (tail_atD HS5.out (by go_grown))) (by simp <;> omega) (by simp <;> omega) ?_; intro gg cap w6 hown hgrow; have HOW := hide (And.intro hown (end_pushI HG5.out HR5.out (by go_grown) hgrow (Nat.le_refl _))); clear hown hgrow) | (refine step_spread_dish (by rfl) _ _ (by rfl) w.heap.size (.slice (some ⟨w5.heap.size + 1, 0, none⟩) 1 1) [⟨u5, 0⟩] (by rfl) (dish_lit (heap_twoI w5 _ _) (by omega)) (by simp) A9 L9 c9 (l.drop 1) HRL.out (by rfl) (HA9.out _ (tail_atD HS5.out (by go_grown))) (by simp <;> omega) (by simp <;> omega) ?_; intro gg cap w6 hown hgrow; have HOW := hide (And.intro hown (end_pushI HG5.out HR5.out (by go_grown) hgrow (by show w5.heap.size ≤ w5.heap.size + 1; omega))); clear hown hgrow) | (go_simp; go_at_call 81; refine (HPK.out _ (by go_grown)).mono ?_; rintro e w5 ⟨q5, rfl, hq50, hq51, hR5, hg5⟩; obtain ⟨j5, rfl⟩ : ∃ j5 : Nat, q5 = j5 := ⟨q5.toNat, by omega⟩; have hj5 : (j5 : Int) < 2 := (by omega); have hj6 : j5 < 2 := (by omega); obtain ⟨u5, hu5, hu6, -⟩ := pair_atI (a := -1) (b := 31) hj6; (try have hcA := cellAI hl3 hg5 hu5); have HG5 := hide ((grown_belowI HG3.out (by go_grown)).trans hg5); have HS5 := hide (row_pickI (DishSl.below HS3.out (by go_grown)) hblt hg5); have HR5 := hide hR5; have hz5 := HG5.out.size; have hz35 : w3.heap.size ≤ w5.heap.size := (by have := hg5.size; simp at this; omega); clear hg5 hR5))
            all_goals
              go_wp2_with fail
              refine bodyPost_ret (results_tmp rfl _ _ _) rfl ⟨[⟨u5, 0⟩] ++ l.drop 1, gg, cap, by rw [List.length_append, HRL.out]; rfl, by rw [List.length_append, HRL.out]; exact HOW.out.1, by rw [List.length_append, HRL.out]; simp; omega, HOW.out.2.1.mono (by omega), HOW.out.2.2⟩
          · have hqb1 : (q3 == 1) = false := beq_false_of_ne hq1
            go_wp2_with fail
            go_region_law (first | (refine step_spread_dish (by rfl) _ _ (by rfl) w.heap.size (.slice (some ⟨w5.heap.size, 0, none⟩) 1 1) [⟨0, u5⟩] (by rfl) (dish_lit (heap_alloc_new w5 _) hz5) (by simp) A9 L9 c9 (l.drop 1) HRL.out (by rfl) (HA9.out _ (tail_atD HS5.out (by go_grown))) (by simp <;> omega) (by simp <;> omega) ?_; intro gg cap w6 hown hgrow; have HOW := hide (And.intro hown (end_pushI HG5.out HR5.out (by go_grown) hgrow (Nat.le_refl _))); clear hown hgrow) | (refine step_spread_dish (by rfl) _ _ (by rfl) w.heap.size (.slice (some ⟨w5.heap.size + 1, 0, none⟩) 1 1) [⟨0, u5⟩] (by rfl) (dish_lit (heap_twoI w5 _ _) (by omega)) (by simp) A9 L9 c9 (l.drop 1) HRL.out (by rfl) (HA9.out _ (tail_atD HS5.out (by go_grown))) (by simp <;> omega) (by simp <;> omega) ?_; intro gg cap w6 hown hgrow; have HOW := hide (And.intro hown (end_pushI HG5.out HR5.out (by go_grown) hgrow (by show w5.heap.size ≤ w5.heap.size + 1; omega))); clear hown hgrow) | (go_simp; go_at_call 81; refine (HPK.out _ (by go_grown)).mono ?_; rintro e w5 ⟨q5, rfl, hq50, hq51, hR5, hg5⟩; obtain ⟨j5, rfl⟩ : ∃ j5 : Nat, q5 = j5 := ⟨q5.toNat, by omega⟩; have hj5 : (j5 : Int) < 2 := (by omega); have hj6 : j5 < 2 := (by omega); obtain ⟨u5, hu5, hu6, -⟩ := pair_atI (a := -1) (b := 31) hj6; (try have hcA := cellAI hl3 hg5 hu5); have HG5 := hide ((grown_belowI HG3.out (by go_grown)).trans hg5); have HS5 := hide (row_pickI (DishSl.below HS3.out (by go_grown)) hblt hg5); have HR5 := hide hR5; have hz5 := HG5.out.size; have hz35 : w3.heap.size ≤ w5.heap.size := (by have := hg5.size; simp at this; omega); clear hg5 hR5))
            all_goals
              go_wp2_with fail
              refine bodyPost_ret (results_tmp rfl _ _ _) rfl ⟨[⟨0, u5⟩] ++ l.drop 1, gg, cap, by rw [List.length_append, HRL.out]; rfl, by rw [List.length_append, HRL.out]; exact HOW.out.1, by rw [List.length_append, HRL.out]; simp; omega, HOW.out.2.1.mono (by omega), HOW.out.2.2⟩
end Go.Proofs.YteloapholoechaaDoor
