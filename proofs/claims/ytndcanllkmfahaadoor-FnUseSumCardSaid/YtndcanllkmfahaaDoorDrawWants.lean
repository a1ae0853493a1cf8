/- Contract of the draw of wants.
   Conditions: the bounds in each statement. -/
import Derived.Test.YtndcanllkmfahaaDoorDrawLots
import Derived.Test.YtndcanllkmfahaaDoorGuarded
namespace Go.Proofs.YtndcanllkmfahaaDoor
open Go.RowKit

def DrewInts (w : World) (b n : Nat) (e : Ending) (w' : World) : Prop := ∃ (ls : List Int) (g c : Nat), e = .returned (.slice (some ⟨g, 0, none⟩) ls.length c) ∧ IntSl w' w.heap.size (.slice (some ⟨g, 0, none⟩) ls.length c) ls ∧ ls.length ≤ 7 ∧ Rd w' b (n + 20) ∧ w.grownBy w' (some b)

theorem tail_int {w5 W : World} {lo g L c : Nat} {l r : List Int} {x : Int} (h : IntSl w5 lo (.slice (some ⟨g, 0, none⟩) L c) l) (hl : l = x :: r) (hB : Below w5.heap.size w5 W) : IntsAt W (some ⟨g, 1, none⟩) r := by
  have h2 := (h.below hB).ints
  rw [hl] at h2
  exact h2.tail

theorem wp_push_int {W : World} {o : Oper} {a : Act} {K : Act → World → Prop} {Q : Exit → Act → World → Prop} (s x : Operand)
    (ho : o.op = .call { callee := .builtin .append, args := #[s, x], argTypes := #[24, 24] }) (lo : Nat) (v : Value) (xs : List Int) (hs : a.eval s = v) (hown : IntSl W lo v xs) (g : Nat) (y : Int)
    (hx : a.eval x = .slice (some ⟨g, 0, none⟩) 1 1) (hg : W.heap[g]? = some (.cells #[.int .i64 y] 3 (0, 0))) (hn : xs.length ≤ 1048576) (hlo : lo ≤ W.heap.size)
    (h : ∀ g' cap w', IntSl w' lo (.slice (some ⟨g', 0, none⟩) (xs.length + 1) cap) (xs ++ [y]) → W.grownBy w' v.ownBlock → K (a.put o.dst (.slice (some ⟨g', 0, none⟩) (xs.length + 1) cap)) w') : o.wp Tryd.prog a W K Q := by
  obtain ⟨i0, hi, hz0, hz1, hz2⟩ := info_parts info3
  refine wp_append_lies W s x 24 ho lo 3 i0 (.int .i64 0) 1 8 Tryd.underlying24 hi hz0 hz1 hz2 rfl (by decide) v xs.length (xs.map (.int .i64)) hs hown ⟨g, 0, none⟩ 1 1 [.int .i64 y] hx rfl
    (World.news_of_block (cs := #[.int .i64 y]) hg) (ints_oneCell .i64 [y]) (by decide) (by unfold maxLen; omega) (by omega) hlo _ rfl ?_
  intro g' cap w' h1 h2 _ _
  refine h g' cap w' ?_ h2
  unfold IntSl
  rw [List.length_append, List.map_append]
  exact h1

set_option maxRecDepth 100000 in
set_option maxHeartbeats 4000000 in
theorem l20Wants_any (b n : Nat) (k : Int) (w : World) (hR : Rd w b n) (hn : n ≤ 80000) (hk : k ≤ 1000000) :
    Calls Tryd.prog 65 #[.pointer (some ⟨b, 0, none⟩), .int .i64 k] w (DrewInts w b n) := by
  have hblt := hR.lt
  have hown0 : IntSl (w.alloc (.cells #[] 3)) w.heap.size (.slice (some ⟨w.heap.size, 0, none⟩) 0 0) [] := World.ownsRow_lit w #[] 0 (Nat.le_refl _) (by unfold maxLen; omega) rfl
  have HO := hide hown0
  have hRa : Rd (w.alloc (.cells #[] 3)) b n := hR.kept (fun j hj => heap_alloc_old w _ (by omega))
  have HRA := hide hRa
  clear hown0 hRa
  go_enter Tryd.func65, Tryd.ntmps65
  go_wp2_with fail
  refine (pick_any b n 7 _ HRA.out (by omega) (by omega)).mono ?_
  rintro e w1 ⟨q, rfl, hq0, hq1, hR1, hg1⟩
  have HS1 : Hid (IntSl w1 w.heap.size (.slice (some ⟨w.heap.size, 0, none⟩) 0 0) []) := hide (HO.out.pick hblt hg1)
  have HG1 : Hid (w.grownBy w1 (some b)) := hide ((World.grownBy_alloc w _ _).trans hg1)
  have HR1 := hide hR1
  clear hg1 hR1
  go_wp2_with fail
  go_loopw [5, 6] (fun v i wr => ∃ (j : Nat) (l : List Int) (L g c : Nat), j ≤ 6 ∧ i = .int .i64 j ∧ L + j ≤ 6 ∧ v = .slice (some ⟨g, 0, none⟩) L c ∧ IntSl wr w.heap.size (.slice (some ⟨g, 0, none⟩) L c) l ∧ Rd wr b (n + 1 + 1 * L) ∧ w.grownBy wr (some b)) (fun _ i _ => (intOf i).toNat)
  case atStart => exact ⟨q.toNat, [], 0, w.heap.size, 0, by omega, by rw [Int.toNat_of_nonneg hq0], by omega, rfl, HS1.out, HR1.out, HG1.out⟩
  case round =>
    clear HS1 HG1 HR1 HO HRA
    obtain ⟨j, l, L, g, c, hj, rfl, hlj, rfl, hS, hRr, hgr⟩ := hrel
    have HLL : Hid (l.length = L) := hide hS.cap.1
    have hlL : l.length ≤ L := Nat.le_of_eq HLL.out
    have HS := hide hS
    have HGR := hide hgr
    have hzr := hgr.size
    clear hS hgr
    by_cases hj0 : 0 < j
    · have hjz : (0 : Int) < j := by omega
      go_wp2_with fail
      refine (pick_any b _ 9 _ hRr (by omega) (by omega)).mono ?_
      rintro e w3 ⟨q3, rfl, hq30, hq31, hR3, hg3⟩
      have HS3 := hide (HS.out.pick hblt hg3)
      have HG3 := hide (HGR.out.trans hg3)
      have HLO := hide (World.ownsRow.lt HS3.out)
      have hz3 := HG3.out.size
      have HR3 := hide hR3
      clear hg3 hR3
      go_wp2_with (at_builtin; refine wpList_wanted (by rfl) (wp_push_int _ _ (by rfl) w.heap.size (.slice (some ⟨g, 0, none⟩) L c) l (by rfl) (World.ownsRow.alloc HS3.out _) w3.heap.size q3 (by rfl) (heap_alloc_new w3 _) (by omega) (by simp; omega) ?_); intro g' cap w4 hown hgrow; have HOW := hide (And.intro hown (And.intro (rd_grown (HR3.out.kept (fun j hj => heap_alloc_old w3 _ (by have := HR3.out.lt; omega))) hgrow (fun k hk => by have := (HLO.out k hk).1; omega)) (grown_row (HG3.out.trans (World.grownBy_alloc w3 _ _)) hgrow (fun k hk => (HLO.out k hk).1)))); clear hown hgrow)
      go_roundw
      case rel =>
        obtain ⟨j', rfl⟩ : ∃ j', j = j' + 1 := ⟨j - 1, by omega⟩
        exact ⟨j', l ++ [q3], l.length + 1, g', cap, by omega, by go_num, by omega, by rfl, HOW.out.1, HOW.out.2.1.mono (by rw [HLL.out]; omega), HOW.out.2.2⟩
      case measure => simp [intOf]; omega
    · obtain rfl : j = 0 := by omega
      go_wp2_with fail
      refine (odd_any b _ k _ hRr (by omega) hk).mono ?_
      rintro e w2 ⟨β, rfl, hR2, hg2⟩
      have HS2 := hide (HS.out.pick hblt hg2)
      have HG2 := hide (HGR.out.trans hg2)
      clear hg2 HS HGR
      cases β with
      | false =>
        go_wp2_with fail
        refine bodyPost_ret (results_tmp rfl _ _ _) rfl ⟨l, g, c, by rw [HLL.out]; rfl, by rw [HLL.out]; exact HS2.out, by omega, hR2.mono (by omega), HG2.out⟩
      | true =>
        go_wp2_with fail
        refine (pick_any b _ 2 _ hR2 (by omega) (by omega)).mono ?_
        rintro e w3 ⟨q3, rfl, hq30, hq31, hR3, hg3⟩
        have HS3 := hide (HS2.out.pick hblt hg3)
        have HG3 := hide (HG2.out.trans hg3)
        have HR3 := hide hR3
        have hz3 := HG3.out.size
        clear hg3 HS2 HG2 hR2 hR3 hRr
        by_cases hq : q3 = 0
        · subst hq
          have hmk : ∀ w, (Instr.makeSlice 24 (.int .i64 7) (.int .i64 7)).run Tryd.prog w = .ok (.slice (some ⟨w.heap.size, 0, none⟩) 7 7) (w.alloc (.cells (madeCells #[.int .i64 0] 7) 3)) := fun w => make_ints 7 (by omega) w
          go_wp2_with fail
          refine bodyPost_ret (results_tmp rfl _ _ _) rfl ⟨tab 7 (fun _ => 0), w3.heap.size, 7, rfl, zeros_sl 7 hz3 (by omega), by rw [tab_len]; omega, (HR3.out.kept (fun j hj => heap_alloc_old w3 _ (by have := HR3.out.lt; omega))).mono (by omega), HG3.out.trans (World.grownBy_alloc w3 _ _)⟩
        · have hqb : (q3 == 0) = false := by simpa using hq
          have HPK : Hid (∀ W, Below w3.heap.size w3 W → Calls Tryd.prog 60 #[.pointer (some ⟨b, 0, none⟩), .int .i64 2] W (Picked W b (n + 1 + 1 * L + 1 + 1) 2)) := hide (fun W hB => pick_any b _ 2 W (HR3.out.below hB HR3.out.lt) (by omega) (by omega))
          have hcap := HS3.out.cap
          have hc0 : L ≤ c := hcap.2.1
          have hc1 : c ≤ 9223372036854775807 := by have := hcap.2.2.1; unfold maxLen at this; omega
          clear hcap
          by_cases hl0 : L = 0
          · obtain rfl : L = 0 := hl0
            have hmin : min (1 : Int) 0 = 0 := rfl
            go_wp2_with fail
            go_region_law (first | (refine step_spread_int (by rfl) _ _ (by rfl) w.heap.size (.slice (some ⟨w5.heap.size, 0, none⟩) 1 1) [u5] (by rfl) (int_lit (heap_alloc_new w5 _) hz5) (by simp) ⟨g, 0, none⟩ 0 c [] rfl (by rfl) (IntsAt.nil _ _) (by simp <;> omega) (by simp <;> omega) ?_; intro gg cap w6 hown hgrow; have HOW := hide (And.intro hown (end_push HG5.out HR5.out (by go_grown) hgrow (Nat.le_refl _))); clear hown hgrow) | (refine step_spread_int (by rfl) _ _ (by rfl) w.heap.size (.slice (some ⟨w5.heap.size + 1, 0, none⟩) 1 1) [u5] (by rfl) (int_lit (heap_two w5 _ _) (by omega)) (by simp) ⟨g, 0, none⟩ 0 c [] rfl (by rfl) (IntsAt.nil _ _) (by simp <;> omega) (by simp <;> omega) ?_; intro gg cap w6 hown hgrow; have HOW := hide (And.intro hown (end_push HG5.out HR5.out (by go_grown) hgrow (by show w5.heap.size ≤ w5.heap.size + 1; omega))); clear hown hgrow) | (go_simp; go_at_call 60; refine (HPK.out _ (by go_grown)).mono ?_; rintro e w5 ⟨q5, rfl, hq50, hq51, hR5, hg5⟩; obtain ⟨j5, rfl⟩ : ∃ j5 : Nat, q5 = j5 := ⟨q5.toNat, by omega⟩; have hj5 : (j5 : Int) < 2 := (by omega); have hj6 : j5 < 2 := (by omega); obtain ⟨u5, hu5, hu6⟩ := pair_at (a := -1) (b := 51) hj6; (try have hcA := cellA HR3.out.lt hg5 hu5); have HG5 := hide ((grown_below HG3.out (by go_grown)).trans hg5); have HS5 := hide ((HS3.out.below (by go_grown)).pick hblt hg5); have HR5 := hide hR5; have hz5 := HG5.out.size; have hz35 : w3.heap.size ≤ w5.heap.size := (by have := hg5.size; simp at this; omega); clear hg5 hR5))
            all_goals
              go_wp2_with fail
              refine bodyPost_ret (results_tmp rfl _ _ _) rfl ⟨[u5] ++ [], gg, cap, rfl, HOW.out.1, by simp, HOW.out.2.1.mono (by omega), HOW.out.2.2⟩
          · have hmin : min (1 : Int) (L : Int) = 1 := by omega
            obtain ⟨x, r, HXR⟩ : ∃ x r, Hid (l = x :: r) := by
              cases l with
              | nil => exact absurd HLL.out (by simp; omega)
              | cons x r => exact ⟨x, r, hide rfl⟩
            have HRL : Hid (r.length = L - 1) := hide (by have := HLL.out; rw [HXR.out, List.length_cons] at this; omega)
            have h1L : (1 : Int) ≤ L := by omega
            have h1c : (1 : Int) ≤ c := by omega
            by_cases hc1c : c = 1
            · obtain rfl : c = 1 := hc1c
              obtain rfl : L = 1 := by omega
              have hmin : min (1 : Int) 1 = 1 := rfl
              go_wp2_with fail
              go_region_law (first | (refine step_spread_int (by rfl) _ _ (by rfl) w.heap.size (.slice (some ⟨w5.heap.size, 0, none⟩) 1 1) [u5] (by rfl) (int_lit (heap_alloc_new w5 _) hz5) (by simp) ⟨g, 0, none⟩ 0 0 [] rfl (by rfl) (IntsAt.nil _ _) (by simp <;> omega) (by simp <;> omega) ?_; intro gg cap w6 hown hgrow; have HOW := hide (And.intro hown (end_push HG5.out HR5.out (by go_grown) hgrow (Nat.le_refl _))); clear hown hgrow) | (refine step_spread_int (by rfl) _ _ (by rfl) w.heap.size (.slice (some ⟨w5.heap.size + 1, 0, none⟩) 1 1) [u5] (by rfl) (int_lit (heap_two w5 _ _) (by omega)) (by simp) ⟨g, 0, none⟩ 0 0 [] rfl (by rfl) (IntsAt.nil _ _) (by simp <;> omega) (by simp <;> omega) ?_; intro gg cap w6 hown hgrow; have HOW := hide (And.intro hown (end_push HG5.out HR5.out (by go_grown) hgrow (by show w5.heap.size ≤ w5.heap.size + 1; omega))); clear hown hgrow) | (go_simp; go_at_call 60; refine (HPK.out _ (by go_grown)).mono ?_; rintro e w5 ⟨q5, rfl, hq50, hq51, hR5, hg5⟩; obtain ⟨j5, rfl⟩ : ∃ j5 : Nat, q5 = j5 := ⟨q5.toNat, by omega⟩; have hj5 : (j5 : Int) < 2 := (by omega); have hj6 : j5 < 2 := (by omega); obtain ⟨u5, hu5, hu6⟩ := pair_at (a := -1) (b := 51) hj6; (try have hcA := cellA HR3.out.lt hg5 hu5); have HG5 := hide ((grown_below HG3.out (by go_grown)).trans hg5); have HS5 := hide ((HS3.out.below (by go_grown)).pick hblt hg5); have HR5 := hide hR5; have hz5 := HG5.out.size; have hz35 : w3.heap.size ≤ w5.heap.size := (by have := hg5.size; simp at this; omega); clear hg5 hR5))
              all_goals
                go_wp2_with fail
                refine bodyPost_ret (results_tmp rfl _ _ _) rfl ⟨[u5] ++ [], gg, cap, rfl, HOW.out.1, by simp, HOW.out.2.1.mono (by omega), HOW.out.2.2⟩
            · have hc2 : (1 : Int) < c := by omega
              have hc3 : ¬ c = 1 := by omega
              go_wp2_with fail
              go_region_law (first | (refine step_spread_int (by rfl) _ _ (by rfl) w.heap.size (.slice (some ⟨w5.heap.size, 0, none⟩) 1 1) [u5] (by rfl) (int_lit (heap_alloc_new w5 _) hz5) (by simp) ⟨g, 1, none⟩ (L - 1) (c - 1) r HRL.out (by rfl) (tail_int HS5.out HXR.out (by go_grown)) (by simp <;> omega) (by simp <;> omega) ?_; intro gg cap w6 hown hgrow; have HOW := hide (And.intro hown (end_push HG5.out HR5.out (by go_grown) hgrow (Nat.le_refl _))); clear hown hgrow) | (refine step_spread_int (by rfl) _ _ (by rfl) w.heap.size (.slice (some ⟨w5.heap.size + 1, 0, none⟩) 1 1) [u5] (by rfl) (int_lit (heap_two w5 _ _) (by omega)) (by simp) ⟨g, 1, none⟩ (L - 1) (c - 1) r HRL.out (by rfl) (tail_int HS5.out HXR.out (by go_grown)) (by simp <;> omega) (by simp <;> omega) ?_; intro gg cap w6 hown hgrow; have HOW := hide (And.intro hown (end_push HG5.out HR5.out (by go_grown) hgrow (by show w5.heap.size ≤ w5.heap.size + 1; omega))); clear hown hgrow) | (go_simp; go_at_call 60; refine (HPK.out _ (by go_grown)).mono ?_; rintro e w5 ⟨q5, rfl, hq50, hq51, hR5, hg5⟩; obtain ⟨j5, rfl⟩ : ∃ j5 : Nat, q5 = j5 := ⟨q5.toNat, by omega⟩; have hj5 : (j5 : Int) < 2 := (by omega); have hj6 : j5 < 2 := (by omega); obtain ⟨u5, hu5, hu6⟩ := pair_at (a := -1) (b := 51) hj6; (try have hcA := cellA HR3.out.lt hg5 hu5); have HG5 := hide ((grown_below HG3.out (by go_grown)).trans hg5); have HS5 := hide ((HS3.out.below (by go_grown)).pick hblt hg5); have HR5 := hide hR5; have hz5 := HG5.out.size; have hz35 : w3.heap.size ≤ w5.heap.size := (by have := hg5.size; simp at this; omega); clear hg5 hR5))
              all_goals
                go_wp2_with fail
                refine bodyPost_ret (results_tmp rfl _ _ _) rfl ⟨[u5] ++ r, gg, cap, by rw [List.length_append, HRL.out]; rfl, by rw [List.length_append, HRL.out]; exact HOW.out.1, by simp [HRL.out]; omega, HOW.out.2.1.mono (by omega), HOW.out.2.2⟩
end Go.Proofs.YtndcanllkmfahaaDoor
