/- Contracts of the draws of lots and of wants.
   Conditions: the bounds in each statement. -/
import Derived.Test.YtndcanllkmfahaaDoorSpread
import Derived.Deep.RegionLaw
namespace Go.Proofs.YtndcanllkmfahaaDoor
open Go.RowKit

def DrewLots (w : World) (b n : Nat) (e : Ending) (w' : World) : Prop := ∃ (ls : List Lot) (g c : Nat), e = .returned (.slice (some ⟨g, 0, none⟩) ls.length c) ∧ LotSl w' w.heap.size (.slice (some ⟨g, 0, none⟩) ls.length c) ls ∧ ls.length ≤ 6 ∧ Rd w' b (n + 20) ∧ w.grownBy w' (some b)

theorem six_lots (w : World) (lo : Nat) (hlo : lo ≤ w.heap.size) : LotSl (w.alloc (.cells (madeCells #[.int .i64 0, .int .i64 0] 12) 36)) lo (.slice (some ⟨w.heap.size, 0, none⟩) 6 6) (List.replicate 6 ⟨0, 0⟩) :=
  ownsRow_of_row (size := 2) (n := 6) (f := fun _ => .int .i64 0) ⟨_, Deep.blk_alloc_new _ _, size_madeCells _ _, fun i hi => made2 6 i hi⟩ hlo (by unfold maxLen; omega) rfl (fun i hi => by
    have hi : i < 12 := hi
    rcases (by omega : i = 0 ∨ i = 1 ∨ i = 2 ∨ i = 3 ∨ i = 4 ∨ i = 5 ∨ i = 6 ∨ i = 7 ∨ i = 8 ∨ i = 9 ∨ i = 10 ∨ i = 11) with rfl | rfl | rfl | rfl | rfl | rfl | rfl | rfl | rfl | rfl | rfl | rfl <;> rfl)

theorem cellA {w3 w5 : World} {b j : Nat} {a c : Int} {u : Value} (hb : b < w3.heap.size) (hg5 : (w3.alloc (.cells #[.int .i64 a, .int .i64 c] 3)).drew.grownBy w5 (some b)) (hu : (#[Value.int .i64 a, Value.int .i64 c] : Array Value)[j]? = some u) : w5.cell? ⟨w3.heap.size, j, none⟩ = some u := by
  have hb5 : w5.heap[w3.heap.size]? = some (.cells #[.int .i64 a, .int .i64 c] 3) := (hg5.block w3.heap.size (by simp) (fun e => by injection e with e; omega)).trans (heap_alloc_new w3 _)
  rw [cell_of_row _ _ _ _ _ _ hb5]
  exact hu

theorem end_push {w w5 W w6 : World} {b n gB : Nat} (hG : w.grownBy w5 (some b)) (hR : Rd w5 b n) (hB : Below w5.heap.size w5 W) (hg : W.grownBy w6 (some gB)) (hgB : w5.heap.size ≤ gB) : Rd w6 b n ∧ w.grownBy w6 (some b) := by
  have hB2 : Below w5.heap.size w5 w6 := hB.grown hg hB.size (fun k hk => by injection hk with hk; omega)
  have hs := hG.size
  exact ⟨hR.below hB2 hR.lt, hB2.os.trans hG.os, hB2.tape.trans hG.tape, hB2.output.trans hG.output, Nat.le_trans hs hB2.size, fun j hj hne => (hB2.block j (by omega)).trans (hG.block j hj hne)⟩
theorem grown_below {w w3 W : World} {b : Nat} (hG : w.grownBy w3 (some b)) (hB : Below w3.heap.size w3 W) : w.grownBy W (some b) :=
  ⟨hB.os.trans hG.os, hB.tape.trans hG.tape, hB.output.trans hG.output, Nat.le_trans hG.size hB.size, fun j hj hne => (hB.block j (by have := hG.size; omega)).trans (hG.block j hj hne)⟩

theorem heap_two (w : World) (A B : Obj) : ((w.alloc A).alloc B).heap[w.heap.size + 1]? = some B := by
  have := heap_alloc_new (w.alloc A) B
  rwa [World.size_alloc] at this
theorem tail_at {w5 W : World} {lo g L c : Nat} {l r : List Lot} {x : Lot} (h : LotSl w5 lo (.slice (some ⟨g, 0, none⟩) L c) l) (hl : l = x :: r) (hB : Below w5.heap.size w5 W) : LotsAt W (some ⟨g, 2, none⟩) r := by
  have h2 := (h.below hB).lots
  rw [hl] at h2
  exact h2.tail

theorem pair_at {a b : Int} {j : Nat} (h : j < 2) : ∃ u, (#[Value.int .i64 a, Value.int .i64 b] : Array Value)[j]? = some (.int .i64 u) ∧ ∀ h : j < [Value.int .i64 a, Value.int .i64 b].length, [Value.int .i64 a, Value.int .i64 b][j]'h = .int .i64 u := by
  rcases (by omega : j = 0 ∨ j = 1) with rfl | rfl
  · exact ⟨a, rfl, fun _ => rfl⟩
  · exact ⟨b, rfl, fun _ => rfl⟩

set_option maxRecDepth 100000 in
set_option maxHeartbeats 4000000 in
theorem l20Lots_any (b n : Nat) (k : Int) (w : World) (hR : Rd w b n) (hn : n ≤ 80000) (hk : k ≤ 1000000) :
    Calls Tryd.prog 59 #[.pointer (some ⟨b, 0, none⟩), .int .i64 k] w (DrewLots w b n) := by
  have hblt := hR.lt
  have hown0 : LotSl (w.alloc (.cells #[] 36)) w.heap.size (.slice (some ⟨w.heap.size, 0, none⟩) 0 0) [] := World.ownsRow_lit w #[] 0 (Nat.le_refl _) (by unfold maxLen; omega) rfl
  have HO := hide hown0
  have hRa : Rd (w.alloc (.cells #[] 36)) b n := hR.kept (fun j hj => heap_alloc_old w _ (by omega))
  have HRA := hide hRa
  clear hown0 hRa
  go_enter Tryd.func59, Tryd.ntmps59
  go_wp2_with fail
  refine (pick_any b n 6 _ HRA.out (by omega) (by omega)).mono ?_
  rintro e w1 ⟨q, rfl, hq0, hq1, hR1, hg1⟩
  have HS1 : Hid (LotSl w1 w.heap.size (.slice (some ⟨w.heap.size, 0, none⟩) 0 0) []) := hide (HO.out.pick hblt hg1)
  have HG1 : Hid (w.grownBy w1 (some b)) := hide ((World.grownBy_alloc w _ _).trans hg1)
  have HR1 := hide hR1
  clear hg1 hR1
  go_wp2_with fail
  go_loopw [5, 6] (fun v i wr => ∃ (j : Nat) (l : List Lot) (L g c : Nat), j ≤ 5 ∧ i = .int .i64 j ∧ L + j ≤ 5 ∧ v = .slice (some ⟨g, 0, none⟩) L c ∧ LotSl wr w.heap.size (.slice (some ⟨g, 0, none⟩) L c) l ∧ Rd wr b (n + 1 + 2 * L) ∧ w.grownBy wr (some b)) (fun _ i _ => (intOf i).toNat)
  case atStart => exact ⟨q.toNat, [], 0, w.heap.size, 0, by omega, by rw [Int.toNat_of_nonneg hq0], by omega, rfl, HS1.out, HR1.out, HG1.out⟩
  case round =>
    clear HS1 HG1 HR1 HO HRA
    obtain ⟨j, l, L, g, c, hj, rfl, hlj, rfl, hS, hRr, hgr⟩ := hrel
    have HLL : Hid (l.length = L) := hide hS.cap.1
    have hlL : l.length ≤ L := Nat.le_of_eq HLL.out
    have HS := hide hS
    have HGR := hide hgr
    have hzr := hgr.size
    clear hS hgr
    by_cases hj0 : 0 < j
    · have hjz : (0 : Int) < j := by omega
      go_wp2_with fail
      refine (pick_any b _ 10 _ hRr (by omega) (by omega)).mono ?_
      rintro e w2 ⟨q2, rfl, hq20, hq21, hR2, hg2⟩
      have HS2 := hide (HS.out.pick hblt hg2)
      have HG2 := hide (HGR.out.trans hg2)
      clear hg2
      go_wp2_with fail
      refine (pick_any b _ 6 _ hR2 (by omega) (by omega)).mono ?_
      rintro e w3 ⟨q3, rfl, hq30, hq31, hR3, hg3⟩
      have HS3 := hide (HS2.out.pick hblt hg3)
      have HG3 := hide (HG2.out.trans hg3)
      have HLO := hide (World.ownsRow.lt HS3.out)
      have hz3 := HG3.out.size
      have HR3 := hide hR3
      clear hg3 HS2 HG2 hR2 hR3
      go_wp2_with (at_builtin; refine wpList_push_lot rfl _ _ rfl w.heap.size (.slice (some ⟨g, 0, none⟩) L c) l rfl (World.ownsRow.alloc HS3.out _) w3.heap.size ⟨q2, q3⟩ rfl (heap_alloc_new w3 _) (by omega) (by simp; omega) ?_; intro g' cap w4 hown hgrow; have HOW := hide (And.intro hown (And.intro (rd_grown (HR3.out.kept (fun j hj => heap_alloc_old w3 _ (by have := HR3.out.lt; omega))) hgrow (fun k hk => by have := (HLO.out k hk).1; omega)) (grown_row (HG3.out.trans (World.grownBy_alloc w3 _ _)) hgrow (fun k hk => (HLO.out k hk).1)))); clear hown hgrow)
      go_roundw
      case rel =>
        obtain ⟨j', rfl⟩ : ∃ j', j = j' + 1 := ⟨j - 1, by omega⟩
        exact ⟨j', l ++ [⟨q2, q3⟩], l.length + 1, g', cap, by omega, by go_num, by omega, by rfl, HOW.out.1, HOW.out.2.1.mono (by rw [HLL.out]; omega), HOW.out.2.2⟩
      case measure => simp [intOf]; omega
    · obtain rfl : j = 0 := by omega
      go_wp2_with fail
      refine (odd_any b _ k _ hRr (by omega) hk).mono ?_
      rintro e w2 ⟨β, rfl, hR2, hg2⟩
      have HS2 := hide (HS.out.pick hblt hg2)
      have HG2 := hide (HGR.out.trans hg2)
      clear hg2 HS HGR
      cases β with
      | false =>
        go_wp2_with fail
        refine bodyPost_ret (results_tmp rfl _ _ _) rfl ⟨l, g, c, by rw [HLL.out]; rfl, by rw [HLL.out]; exact HS2.out, by omega, hR2.mono (by omega), HG2.out⟩
      | true =>
        go_wp2_with fail
        refine (pick_any b _ 3 _ hR2 (by omega) (by omega)).mono ?_
        rintro e w3 ⟨q3, rfl, hq30, hq31, hR3, hg3⟩
        have HS3 := hide (HS2.out.pick hblt hg3)
        have HG3 := hide (HG2.out.trans hg3)
        have HR3 := hide hR3
        have hz3 := HG3.out.size
        clear hg3 HS2 HG2 hR2 hR3 hRr
        by_cases hq : q3 = 0
        · subst hq
          have hmk : ∀ w, (Instr.makeSlice 23 (.int .i64 6) (.int .i64 6)).run Tryd.prog w = .ok (.slice (some ⟨w.heap.size, 0, none⟩) 6 6) (w.alloc (.cells (madeCells #[.int .i64 0, .int .i64 0] 12) 36)) := fun w => make_lots 6 (by omega) w
          go_wp2_with fail
          refine bodyPost_ret (results_tmp rfl _ _ _) rfl ⟨List.replicate 6 ⟨0, 0⟩, w3.heap.size, 6, rfl, six_lots w3 _ hz3, by simp, (HR3.out.kept (fun j hj => heap_alloc_old w3 _ (by have := HR3.out.lt; omega))).mono (by omega), HG3.out.trans (World.grownBy_alloc w3 _ _)⟩
        · have hqb : (q3 == 0) = false := by simpa using hq
          have HPK : Hid (∀ W, Below w3.heap.size w3 W → Calls Tryd.prog 60 #[.pointer (some ⟨b, 0, none⟩), .int .i64 2] W (Picked W b (n + 1 + 2 * L + 1 + 1) 2)) := hide (fun W hB => pick_any b _ 2 W (HR3.out.below hB HR3.out.lt) (by omega) (by omega))
          by_cases hq1 : q3 = 1
          · subst hq1
            have hcap := HS3.out.cap
            have hc0 : L ≤ c := hcap.2.1
            have hc1 : c ≤ 9223372036854775807 := by have := hcap.2.2.1; unfold maxLen at this; omega
            clear hcap
            by_cases hl0 : L = 0
            · obtain rfl : L = 0 := hl0
              have hmin : min (1 : Int) 0 = 0 := rfl
              go_wp2_with fail
              go_region_law (first | (refine step_spread_lot (by rfl) _ _ (by rfl) w.heap.size (.slice (some ⟨w5.heap.size, 0, none⟩) 1 1) [⟨u5, 0⟩] (by rfl) (lot_lit (heap_alloc_new w5 _) hz5) (by simp) ⟨g, 0, none⟩ 0 c [] rfl (by rfl) (LotsAt.nil _ _) (by simp <;> omega) (by simp <;> omega) ?_; intro gg cap w6 hown hgrow; have HOW := hide (And.intro hown (end_push HG5.out HR5.out (by go_grown) hgrow (Nat.le_refl _))); clear hown hgrow) | (refine step_spread_lot (by rfl) _ _ (by rfl) w.heap.size (.slice (some ⟨w5.heap.size + 1, 0, none⟩) 1 1) [⟨u5, 0⟩] (by rfl) (lot_lit (heap_two w5 _ _) (by omega)) (by simp) ⟨g, 0, none⟩ 0 c [] rfl (by rfl) (LotsAt.nil _ _) (by simp <;> omega) (by simp <;> omega) ?_; intro gg cap w6 hown hgrow; have HOW := hide (And.intro hown (end_push HG5.out HR5.out (by go_grown) hgrow (by show w5.heap.size ≤ w5.heap.size + 1; omega))); clear hown hgrow) | (go_simp; go_at_call 60; refine (HPK.out _ (by go_grown)).mono ?_; rintro e w5 ⟨q5, rfl, hq50, hq51, hR5, hg5⟩; obtain ⟨j5, rfl⟩ : ∃ j5 : Nat, q5 = j5 := ⟨q5.toNat, by omega⟩; have hj5 : (j5 : Int) < 2 := (by omega); have hj6 : j5 < 2 := (by omega); obtain ⟨u5, hu5, hu6⟩ := pair_at (a := -1) (b := 10) hj6; (try have hcA := cellA HR3.out.lt hg5 hu5); have HG5 := hide ((grown_below HG3.out (by go_grown)).trans hg5); have HS5 := hide ((HS3.out.below (by go_grown)).pick hblt hg5); have HR5 := hide hR5; have hz5 := HG5.out.size; have hz35 : w3.heap.size ≤ w5.heap.size := (by have := hg5.size; simp at this; omega); clear hg5 hR5))
              all_goals
                go_wp2_with fail
                refine bodyPost_ret (results_tmp rfl _ _ _) rfl ⟨[⟨u5, 0⟩] ++ [], gg, cap, rfl, HOW.out.1, by simp, HOW.out.2.1.mono (by omega), HOW.out.2.2⟩
            · have hmin : min (1 : Int) (L : Int) = 1 := by omega
              obtain ⟨x, r, HXR⟩ : ∃ x r, Hid (l = x :: r) := by
                cases l with
                | nil => exact absurd HLL.out (by simp; omega)
                | cons x r => exact ⟨x, r, hide rfl⟩
              have HRL : Hid (r.length = L - 1) := hide (by have := HLL.out; rw [HXR.out, List.length_cons] at this; omega)
              have h1L : (1 : Int) ≤ L := by omega
              have h1c : (1 : Int) ≤ c := by omega
              by_cases hc1c : c = 1
              · obtain rfl : c = 1 := hc1c
                obtain rfl : L = 1 := by omega
                have hmin : min (1 : Int) 1 = 1 := rfl
                go_wp2_with fail
                go_region_law (first | (refine step_spread_lot (by rfl) _ _ (by rfl) w.heap.size (.slice (some ⟨w5.heap.size, 0, none⟩) 1 1) [⟨u5, 0⟩] (by rfl) (lot_lit (heap_alloc_new w5 _) hz5) (by simp) ⟨g, 0, none⟩ 0 0 [] rfl (by rfl) (LotsAt.nil _ _) (by simp <;> omega) (by simp <;> omega) ?_; intro gg cap w6 hown hgrow; have HOW := hide (And.intro hown (end_push HG5.out HR5.out (by go_grown) hgrow (Nat.le_refl _))); clear hown hgrow) | (refine step_spread_lot (by rfl) _ _ (by rfl) w.heap.size (.slice (some ⟨w5.heap.size + 1, 0, none⟩) 1 1) [⟨u5, 0⟩] (by rfl) (lot_lit (heap_two w5 _ _) (by omega)) (by simp) ⟨g, 0, none⟩ 0 0 [] rfl (by rfl) (LotsAt.nil _ _) (by simp <;> omega) (by simp <;> omega) ?_; intro gg cap w6 hown hgrow; have HOW := hide (And.intro hown (end_push HG5.out HR5.out (by go_grown) hgrow (by show w5.heap.size ≤ w5.heap.size + 1; omega))); clear hown hgrow) | (go_simp; go_at_call 60; refine (HPK.out _ (by go_grown)).mono ?_; rintro e w5 ⟨q5, rfl, hq50, hq51, hR5, hg5⟩; obtain ⟨j5, rfl⟩ : ∃ j5 : Nat, q5 = j5 := ⟨q5.toNat, by omega⟩; have hj5 : (j5 : Int) < 2 := (by omega); have hj6 : j5 < 2 := (by omega); obtain ⟨u5, hu5, hu6⟩ := pair_at (a := -1) (b := 10) hj6; (try have hcA := cellA HR3.out.lt hg5 hu5); have HG5 := hide ((grown_below HG3.out (by go_grown)).trans hg5); have HS5 := hide ((HS3.out.below (by go_grown)).pick hblt hg5); have HR5 := hide hR5; have hz5 := HG5.out.size; have hz35 : w3.heap.size ≤ w5.heap.size := (by have := hg5.size; simp at this; omega); clear hg5 hR5))
                all_goals
                  go_wp2_with fail
                  refine bodyPost_ret (results_tmp rfl _ _ _) rfl ⟨[⟨u5, 0⟩] ++ [], gg, cap, rfl, HOW.out.1, by simp, HOW.out.2.1.mono (by omega), HOW.out.2.2⟩
              · have hc2 : (1 : Int) < c := by omega
                have hc3 : ¬ c = 1 := by omega
                go_wp2_with fail
                go_region_law (first | (refine step_spread_lot (by rfl) _ _ (by rfl) w.heap.size (.slice (some ⟨w5.heap.size, 0, none⟩) 1 1) [⟨u5, 0⟩] (by rfl) (lot_lit (heap_alloc_new w5 _) hz5) (by simp) ⟨g, 2, none⟩ (L - 1) (c - 1) r HRL.out (by rfl) (tail_at HS5.out HXR.out (by go_grown)) (by simp <;> omega) (by simp <;> omega) ?_; intro gg cap w6 hown hgrow; have HOW := hide (And.intro hown (end_push HG5.out HR5.out (by go_grown) hgrow (Nat.le_refl _))); clear hown hgrow) | (refine step_spread_lot (by rfl) _ _ (by rfl) w.heap.size (.slice (some ⟨w5.heap.size + 1, 0, none⟩) 1 1) [⟨u5, 0⟩] (by rfl) (lot_lit (heap_two w5 _ _) (by omega)) (by simp) ⟨g, 2, none⟩ (L - 1) (c - 1) r HRL.out (by rfl) (tail_at HS5.out HXR.out (by go_grown)) (by simp <;> omega) (by simp <;> omega) ?_; intro gg cap w6 hown hgrow; have HOW := hide (And.intro hown (end_push HG5.out HR5.out (by go_grown) hgrow (by show w5.heap.size ≤ w5.heap.size + 1; omega))); clear hown hgrow) | (go_simp; go_at_call 60; refine (HPK.out _ (by go_grown)).mono ?_; rintro e w5 ⟨q5, rfl, hq50, hq51, hR5, hg5⟩; obtain ⟨j5, rfl⟩ : ∃ j5 : Nat, q5 = j5 := ⟨q5.toNat, by omega⟩; have hj5 : (j5 : Int) < 2 := (by omega); have hj6 : j5 < 2 := (by omega); obtain ⟨u5, hu5, hu6⟩ := pair_at (a := -1) (b := 10) hj6; (try have hcA := cellA HR3.out.lt hg5 hu5); have HG5 := hide ((grown_below HG3.out (by go_grown)).trans hg5); have HS5 := hide ((HS3.out.below (by go_grown)).pick hblt hg5); have HR5 := hide hR5; have hz5 := HG5.out.size; have hz35 : w3.heap.size ≤ w5.heap.size := (by have := hg5.size; simp at this; omega); clear hg5 hR5))
                all_goals
                  go_wp2_with fail
                  refine bodyPost_ret (results_tmp rfl _ _ _) rfl ⟨[⟨u5, 0⟩] ++ r, gg, cap, by rw [List.length_append, HRL.out]; rfl, by rw [List.length_append, HRL.out]; exact HOW.out.1, by simp [HRL.out]; omega, HOW.out.2.1.mono (by omega), HOW.out.2.2⟩
          · have hqb1 : (q3 == 1) = false := by simpa using hq1
            have hcap := HS3.out.cap
            have hc0 : L ≤ c := hcap.2.1
            have hc1 : c ≤ 9223372036854775807 := by have := hcap.2.2.1; unfold maxLen at this; omega
            clear hcap
            by_cases hl0 : L = 0
            · obtain rfl : L = 0 := hl0
              have hmin : min (1 : Int) 0 = 0 := rfl
              go_wp2_with fail
              go_region_law (first | (refine step_spread_lot (by rfl) _ _ (by rfl) w.heap.size (.slice (some ⟨w5.heap.size, 0, none⟩) 1 1) [⟨0, u5⟩] (by rfl) (lot_lit (heap_alloc_new w5 _) hz5) (by simp) ⟨g, 0, none⟩ 0 c [] rfl (by rfl) (LotsAt.nil _ _) (by simp <;> omega) (by simp <;> omega) ?_; intro gg cap w6 hown hgrow; have HOW := hide (And.intro hown (end_push HG5.out HR5.out (by go_grown) hgrow (Nat.le_refl _))); clear hown hgrow) | (refine step_spread_lot (by rfl) _ _ (by rfl) w.heap.size (.slice (some ⟨w5.heap.size + 1, 0, none⟩) 1 1) [⟨0, u5⟩] (by rfl) (lot_lit (heap_two w5 _ _) (by omega)) (by simp) ⟨g, 0, none⟩ 0 c [] rfl (by rfl) (LotsAt.nil _ _) (by simp <;> omega) (by simp <;> omega) ?_; intro gg cap w6 hown hgrow; have HOW := hide (And.intro hown (end_push HG5.out HR5.out (by go_grown) hgrow (by show w5.heap.size ≤ w5.heap.size + 1; omega))); clear hown hgrow) | (go_simp; go_at_call 60; refine (HPK.out _ (by go_grown)).mono ?_; rintro e w5 ⟨q5, rfl, hq50, hq51, hR5, hg5⟩; obtain ⟨j5, rfl⟩ : ∃ j5 : Nat, q5 = j5 := ⟨q5.toNat, by omega⟩; have hj5 : (j5 : Int) < 2 := (by omega); have hj6 : j5 < 2 := (by omega); obtain ⟨u5, hu5, hu6⟩ := pair_at (a := -1) (b := 6) hj6; (try have hcA := cellA HR3.out.lt hg5 hu5); have HG5 := hide ((grown_below HG3.out (by go_grown)).trans hg5); have HS5 := hide ((HS3.out.below (by go_grown)).pick hblt hg5); have HR5 := hide hR5; have hz5 := HG5.out.size; have hz35 : w3.heap.size ≤ w5.heap.size := (by have := hg5.size; simp at this; omega); clear hg5 hR5))
              all_goals
                go_wp2_with fail
                refine bodyPost_ret (results_tmp rfl _ _ _) rfl ⟨[⟨0, u5⟩] ++ [], gg, cap, rfl, HOW.out.1, by simp, HOW.out.2.1.mono (by omega), HOW.out.2.2⟩
            · have hmin : min (1 : Int) (L : Int) = 1 := by omega
              obtain ⟨x, r, HXR⟩ : ∃ x r, Hid (l = x :: r) := by
                cases l with
                | nil => exact absurd HLL.out (by simp; omega)
                | cons x r => exact ⟨x, r, hide rfl⟩
              have HRL : Hid (r.length = L - 1) := hide (by have := HLL.out; rw [HXR.out, List.length_cons] at this; omega)
              have h1L : (1 : Int) ≤ L := by omega
              have h1c : (1 : Int) ≤ c := by omega
              by_cases hc1c : c = 1
              · obtain rfl : c = 1 := hc1c
                obtain rfl : L = 1 := by omega
                have hmin : min (1 : Int) 1 = 1 := rfl
                go_wp2_with fail
                go_region_law (first | (refine step_spread_lot (by rfl) _ _ (by rfl) w.heap.size (.slice (some ⟨w5.heap.size, 0, none⟩) 1 1) [⟨0, u5⟩] (by rfl) (lot_lit (heap_alloc_new w5 _) hz5) (by simp) ⟨g, 0, none⟩ 0 0 [] rfl (by rfl) (LotsAt.nil _ _) (by simp <;> omega) (by simp <;> omega) ?_; intro gg cap w6 hown hgrow; have HOW := hide (And.intro hown (end_push HG5.out HR5.out (by go_grown) hgrow (Nat.le_refl _))); clear hown hgrow) | (refine step_spread_lot (by rfl) _ _ (by rfl) w.heap.size (.slice (some ⟨w5.heap.size + 1, 0, none⟩) 1 1) [⟨0, u5⟩] (by rfl) (lot_lit (heap_two w5 _ _) (by omega)) (by simp) ⟨g, 0, none⟩ 0 0 [] rfl (by rfl) (LotsAt.nil _ _) (by simp <;> omega) (by simp <;> omega) ?_; intro gg cap w6 hown hgrow; have HOW := hide (And.intro hown (end_push HG5.out HR5.out (by go_grown) hgrow (by show w5.heap.size ≤ w5.heap.size + 1; omega))); clear hown hgrow) | (go_simp; go_at_call 60; refine (HPK.out _ (by go_grown)).mono ?_; rintro e w5 ⟨q5, rfl, hq50, hq51, hR5, hg5⟩; obtain ⟨j5, rfl⟩ : ∃ j5 : Nat, q5 = j5 := ⟨q5.toNat, by omega⟩; have hj5 : (j5 : Int) < 2 := (by omega); have hj6 : j5 < 2 := (by omega); obtain ⟨u5, hu5, hu6⟩ := pair_at (a := -1) (b := 6) hj6; (try have hcA := cellA HR3.out.lt hg5 hu5); have HG5 := hide ((grown_below HG3.out (by go_grown)).trans hg5); have HS5 := hide ((HS3.out.below (by go_grown)).pick hblt hg5); have HR5 := hide hR5; have hz5 := HG5.out.size; have hz35 : w3.heap.size ≤ w5.heap.size := (by have := hg5.size; simp at this; omega); clear hg5 hR5))
                all_goals
                  go_wp2_with fail
                  refine bodyPost_ret (results_tmp rfl _ _ _) rfl ⟨[⟨0, u5⟩] ++ [], gg, cap, rfl, HOW.out.1, by simp, HOW.out.2.1.mono (by omega), HOW.out.2.2⟩
              · have hc2 : (1 : Int) < c := by omega
                have hc3 : ¬ c = 1 := by omega
                go_wp2_with fail
                go_region_law (first | (refine step_spread_lot (by rfl) _ _ (by rfl) w.heap.size (.slice (some ⟨w5.heap.size, 0, none⟩) 1 1) [⟨0, u5⟩] (by rfl) (lot_lit (heap_alloc_new w5 _) hz5) (by simp) ⟨g, 2, none⟩ (L - 1) (c - 1) r HRL.out (by rfl) (tail_at HS5.out HXR.out (by go_grown)) (by simp <;> omega) (by simp <;> omega) ?_; intro gg cap w6 hown hgrow; have HOW := hide (And.intro hown (end_push HG5.out HR5.out (by go_grown) hgrow (Nat.le_refl _))); clear hown hgrow) | (refine step_spread_lot (by rfl) _ _ (by rfl) w.heap.size (.slice (some ⟨w5.heap.size + 1, 0, none⟩) 1 1) [⟨0, u5⟩] (by rfl) (lot_lit (heap_two w5 _ _) (by omega)) (by simp) ⟨g, 2, none⟩ (L - 1) (c - 1) r HRL.out (by rfl) (tail_at HS5.out HXR.out (by go_grown)) (by simp <;> omega) (by simp <;> omega) ?_; intro gg cap w6 hown hgrow; have HOW := hide (And.intro hown (end_push HG5.out HR5.out (by go_grown) hgrow (by show w5.heap.size ≤ w5.heap.size + 1; omega))); clear hown hgrow) | (go_simp; go_at_call 60; refine (HPK.out _ (by go_grown)).mono ?_; rintro e w5 ⟨q5, rfl, hq50, hq51, hR5, hg5⟩; obtain ⟨j5, rfl⟩ : ∃ j5 : Nat, q5 = j5 := ⟨q5.toNat, by omega⟩; have hj5 : (j5 : Int) < 2 := (by omega); have hj6 : j5 < 2 := (by omega); obtain ⟨u5, hu5, hu6⟩ := pair_at (a := -1) (b := 6) hj6; (try have hcA := cellA HR3.out.lt hg5 hu5); have HG5 := hide ((grown_below HG3.out (by go_grown)).trans hg5); have HS5 := hide ((HS3.out.below (by go_grown)).pick hblt hg5); have HR5 := hide hR5; have hz5 := HG5.out.size; have hz35 : w3.heap.size ≤ w5.heap.size := (by have := hg5.size; simp at this; omega); clear hg5 hR5))
                all_goals
                  go_wp2_with fail
                  refine bodyPost_ret (results_tmp rfl _ _ _) rfl ⟨[⟨0, u5⟩] ++ r, gg, cap, by rw [List.length_append, HRL.out]; rfl, by rw [List.length_append, HRL.out]; exact HOW.out.1, by simp [HRL.out]; omega, HOW.out.2.1.mono (by omega), HOW.out.2.2⟩
end Go.Proofs.YtndcanllkmfahaaDoor
