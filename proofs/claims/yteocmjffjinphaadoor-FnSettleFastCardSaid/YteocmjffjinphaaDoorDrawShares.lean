/- Contract of the draw of shares.
   Conditions: the bounds in each statement. -/
import Derived.Test.YteocmjffjinphaaDoorDrawI
import Derived.Test.YteocmjffjinphaaDoorDrawSum
namespace Go.Proofs.YteocmjffjinphaaDoor
open Go.RowKit Go.ChangeShapes Go.WideShapes Go.ChangeAt Go.Deep

theorem sumL_abs {B : Int} (hB : 0 ≤ B) : ∀ {l : List Int}, (∀ x ∈ l, -B ≤ x ∧ x ≤ B) → -(B * l.length) ≤ sumL l ∧ sumL l ≤ B * l.length
  | [], _ => by simp [sumL]
  | x :: r, h => by
    have ih := sumL_abs hB (l := r) (fun y hy => h y (by simp [hy]))
    have hx := h x (by simp)
    simp only [sumL, List.length_cons, Int.natCast_add, Int.natCast_one, Int.mul_add, Int.mul_one]
    omega
theorem sumW_abs {B : Int} (hB : 0 ≤ B) (hB2 : B ≤ 100000) {l : List Int} (h : ∀ x ∈ l, -B ≤ x ∧ x ≤ B) (hl : l.length ≤ 100) : sumW l = sumL l ∧ -(B * l.length) ≤ sumW l ∧ sumW l ≤ B * l.length := by
  have a := sumL_abs hB h
  have hm : B * (l.length : Int) ≤ 100000 * 100 := Int.mul_le_mul hB2 (by omega) (by omega) (by omega)
  have e : sumW l = sumL l := by
    unfold sumW
    rw [sumGo_plain l 0 (-B) B h (by omega) hB (by rw [Int.neg_mul]; omega) (by omega)]
    omega
  exact ⟨e, by omega, by omega⟩
theorem ones_lit (w : World) (lo : Nat) (hlo : lo ≤ w.heap.size) : IntSl (w.alloc (.cells #[.int .i64 1, .int .i64 1, .int .i64 1, .int .i64 1, .int .i64 1, .int .i64 1, .int .i64 1, .int .i64 1] 3)) lo (.slice (some ⟨w.heap.size, 0, none⟩) 8 8) [1, 1, 1, 1, 1, 1, 1, 1] :=
  World.ownsRow_lit w #[.int .i64 1, .int .i64 1, .int .i64 1, .int .i64 1, .int .i64 1, .int .i64 1, .int .i64 1, .int .i64 1] 8 hlo (by unfold maxLen; omega) rfl

set_option maxRecDepth 100000 in
set_option maxHeartbeats 4000000 in
theorem l20Shares_any (b n : Nat) (k : Int) (w : World) (hR : Rd w b n) (hn : n ≤ 80000) (hk : k ≤ 1000000) :
    Calls Tryd.prog 74 #[.pointer (some ⟨b, 0, none⟩), .int .i64 k] w (DrewI 100 8 w b (n + 30)) := by
  have hblt := hR.lt
  have HO : Hid (IntSl (w.alloc (.cells #[] 3)) w.heap.size (.slice (some ⟨w.heap.size, 0, none⟩) 0 0) []) := hide (World.ownsRow_lit w #[] 0 (Nat.le_refl _) (by unfold maxLen; omega) rfl)
  have HRA : Hid (Rd (w.alloc (.cells #[] 3)) b n) := hide (hR.kept (fun j hj => heap_alloc_old w _ (by omega)))
  have HGA : Hid (w.grownBy (w.alloc (.cells #[] 3)) (some b)) := hide (World.grownBy_alloc w _ _)
  go_enter Tryd.func74, Tryd.ntmps74
  go_wp2_with fail
  refine (pick_any b n 7 _ HRA.out (by omega) (by omega)).mono ?_
  rintro e w1 ⟨q, rfl, hq0, hq1, hR1, hgw1⟩
  have HS1 : Hid (IntSl w1 w.heap.size (.slice (some ⟨w.heap.size, 0, none⟩) 0 0) []) := hide (row_pickI HO.out hblt hgw1)
  have HG1 : Hid (w.grownBy w1 (some b)) := hide (HGA.out.trans hgw1)
  have HR1 := hide hR1
  have hq6 : q ≤ 6 := by omega
  clear hgw1 hR1 HO HRA HGA hR
  go_wp2_with fail
  go_loopw [5, 6] (fun v i wr => ∃ (j : Nat) (l : List Int) (L g c : Nat), j ≤ 7 ∧ i = .int .i64 j ∧ L + j ≤ 7 ∧ 1 ≤ L + j ∧ v = .slice (some ⟨g, 0, none⟩) L c ∧ IntSl wr w.heap.size (.slice (some ⟨g, 0, none⟩) L c) l ∧ Rd wr b (n + 1 + 2 * L) ∧ w.grownBy wr (some b) ∧ Hid (∀ x ∈ l, -100 ≤ x ∧ x ≤ 100)) (fun _ i _ => (intOf i).toNat)
  case atStart => exact ⟨q.toNat + 1, [], 0, w.heap.size, 0, by omega, by rw [show ((q.toNat + 1 : Nat) : Int) = 1 + q from by omega], by omega, by omega, rfl, HS1.out, HR1.out, HG1.out, hide rng_nil⟩
  case round =>
    clear HS1 HG1 HR1
    obtain ⟨j, l, L, g, c, hj, rfl, hlj, hlj1, rfl, hS, hRr, hgr, HX⟩ := hrel
    have HLL : Hid (l.length = L) := hide hS.capI.1
    have hlL : l.length ≤ L := Nat.le_of_eq HLL.out
    have HS := hide hS
    have HGR := hide hgr
    have hzr := hgr.size
    clear hS hgr
    by_cases hj0 : 0 < j
    · have hjz : (0 : Int) < j := by omega
      go_wp2_with fail
      refine (pick_any b _ 6 _ hRr (by omega) (by omega)).mono ?_
      rintro e w2 ⟨q2, rfl, hq20, hq21, hR2, hg2⟩
      have HS2 := hide (row_pickI HS.out (by omega) hg2)
      have HG2 := hide (HGR.out.trans hg2)
      have hq22 : q2 ≤ 5 := by omega
      clear hg2
      go_wp2_with fail
      refine (pick_any b _ 3 _ hR2 (by omega) (by omega)).mono ?_
      rintro e w3 ⟨q3, rfl, hq30, hq31, hR3, hg3⟩
      have HS3 := hide (row_pickI HS2.out (by omega) hg3)
      have HG3 := hide (HG2.out.trans hg3)
      have HLO := hide (World.ownsRow.lt HS3.out)
      have hz3 := HG3.out.size
      have HR3 := hide hR3
      obtain ⟨q4, hq4⟩ : ∃ q4, 1 + q3 = q4 := ⟨_, rfl⟩
      have hwq : IntKind.i64.wrap (1 + q3) = q4 := (IntWalk.i64_in _ (by omega)).trans hq4
      obtain ⟨hm0, hm1⟩ := mul_rng (p := q2) (q := q4) (P := 5) (Q := 3) hq20 hq22 (by omega) (by omega) (by omega)
      obtain ⟨M, hM⟩ : ∃ M, q2 * q4 = M := ⟨_, rfl⟩
      have hwM : IntKind.i64.wrap (q2 * q4) = M := (IntWalk.i64_in _ (by omega)).trans hM
      rw [hM] at hm0 hm1
      clear hg3 hR3 hR2 HS2 HG2
      go_wp2_with (at_builtin; refine wpList_wantedI (by rfl) (wp_push_intI _ _ (by rfl) w.heap.size (.slice (some ⟨g, 0, none⟩) L c) l (by rfl) (World.ownsRow.alloc HS3.out _) w3.heap.size M (by rfl) (heap_alloc_new w3 _) (by omega) (by simp; omega) ?_); intro g' cap w4 hown hgrow; have HOW := hide (And.intro hown (And.intro (rd_grownI (HR3.out.kept (fun j hj => heap_alloc_old w3 _ (by have := HR3.out.lt; omega))) hgrow (fun k hk => by have := (HLO.out k hk).1; omega)) (grown_rowI (HG3.out.trans (World.grownBy_alloc w3 _ _)) hgrow (fun k hk => (HLO.out k hk).1)))); clear hown hgrow)
      go_roundw
      case rel =>
        obtain ⟨j', rfl⟩ : ∃ j', j = j' + 1 := ⟨j - 1, by omega⟩
        exact ⟨j', l ++ [M], l.length + 1, g', cap, by omega, by go_num, by omega, by rw [HLL.out]; omega, by rfl, HOW.out.1, HOW.out.2.1.mono (by rw [HLL.out]; omega), HOW.out.2.2, hide (rng_push HX.out (by omega) (by omega))⟩
      case measure => simp [intOf]; omega
    · obtain rfl : j = 0 := by omega
      go_wp2_with fail
      refine (odd_any b _ k _ hRr (by omega) hk).mono ?_
      rintro e w2 ⟨β, rfl, hR2, hg2⟩
      have HS2 := hide (row_pickI HS.out hblt hg2)
      have HG2 := hide (HGR.out.trans hg2)
      have HR2 := hide hR2
      have hl2 := hR2.lt
      have hz2 := HG2.out.size
      clear hg2 HS HGR hR2 hRr
      cases β with
      | false =>
        have HI2 := hide (IntSl.ints HS2.out)
        have hll : l.length ≤ 1048576 := by omega
        have HSW := hide (sumW_abs (by omega) (by omega) HX.out (show l.length ≤ 100 by omega))
        obtain ⟨z, hz⟩ : ∃ z, sumW l = z := ⟨_, rfl⟩
        have HSC : Hid (∀ W, IntsAt W (some ⟨g, 0, none⟩) l → Calls Tryd.prog 75 #[.slice (some ⟨g, 0, none⟩) L c] W fun e w' => e = .returned (.int .i64 z) ∧ W = w') := hide (fun W hI => by
          have := l1Sum_any _ c _ W hI hll
          rw [hz, HLL.out] at this
          exact this)
        clear hz
        go_wp2_with fail
        refine (HSC.out _ HI2.out).mono ?_
        rintro e w4 ⟨rfl, rfl⟩
        by_cases hz0 : z = 0
        · have hzb : (z == 0) = true := by rw [hz0]; rfl
          have hL0 : (0 : Int) < L := by omega
          have HFZ := hide (IntSl.frozenAt HS2.out 0)
          obtain ⟨x0, hx0⟩ : ∃ x0, l[0]? = some x0 := ⟨_, List.getElem?_eq_getElem (show 0 < l.length by rw [HLL.out]; omega)⟩
          have HC0 := hide (IntSl.cellAt HS2.out hx0)
          have HST := hide (IntSl.store HS2.out 0 1)
          have HGS := hide (IntSl.grownSet HS2.out 0 1)
          have hgg := (IntSl.capI HS2.out).2.2.2
          have hf0 := HFZ.out
          have hc0 := HC0.out
          clear hz0
          go_wp2_with fail
          refine bodyPost_ret (results_tmp rfl _ _ _) rfl ⟨l.set 0 1, g, c, by rw [List.length_set, HLL.out]; rfl, by rw [List.length_set, HLL.out]; exact HST.out, by rw [List.length_set]; omega, (rd_grownI HR2.out HGS.out (fun k hk => by injection hk with hk; omega)).mono (by omega), grown_rowI HG2.out HGS.out (fun k hk => by injection hk with hk; omega), fun x hx => ?_⟩
          rcases List.mem_or_eq_of_mem_set hx with hx | rfl
          · exact HX.out x hx
          · omega
        · have hzb : (z == 0) = false := beq_false_of_ne hz0
          go_wp2_with fail
          refine bodyPost_ret (results_tmp rfl _ _ _) rfl ⟨l, g, c, by rw [HLL.out]; rfl, by rw [HLL.out]; exact HS2.out, by omega, HR2.out.mono (by omega), HG2.out, HX.out⟩
      | true =>
        go_wp2_with fail
        refine (pick_any b _ 3 _ HR2.out (by omega) (by omega)).mono ?_
        rintro e w3 ⟨q3, rfl, hq30, hq31, hR3, hg3⟩
        have HS3 := hide (row_pickI HS2.out hblt hg3)
        have HG3 := hide (HG2.out.trans hg3)
        have HR3 := hide hR3
        have hz3 := HG3.out.size
        have hl3 := hR3.lt
        clear hg3 HS2 HG2 HR2 hR3
        by_cases hq : q3 = 0
        · subst hq
          go_wp2_with fail
          refine (pick_any b _ 4 _ HR3.out (by omega) (by omega)).mono ?_
          rintro e w4 ⟨m4, rfl, hm40, hm41, hR4, hg4⟩
          obtain ⟨m, rfl⟩ : ∃ m : Nat, m4 = m := ⟨m4.toNat, by omega⟩
          have HG4 := hide (HG3.out.trans hg4)
          have HR4 := hide hR4
          have hz4 := HG4.out.size
          have hl4 := hR4.lt
          have hm3 : m ≤ 3 := by omega
          have hmk := make_ints m (by omega)
          clear hg4 hR4
          go_wp2_with fail
          refine bodyPost_ret (results_tmp rfl _ _ _) rfl ⟨tab m (fun _ => 0), w4.heap.size, m, by rw [tab_len]; rfl, by rw [tab_len]; exact zeros_tabG w4 m hz4 (by omega), by rw [tab_len]; omega, (HR4.out.kept (fun j hj => heap_alloc_old w4 _ (by omega))).mono (by omega), HG4.out.trans (World.grownBy_alloc w4 _ _), rng_zeros m (by omega)⟩
        · have hqb : (q3 == 0) = false := beq_false_of_ne hq
          by_cases hq1 : q3 = 1
          · subst hq1
            have HPK : Hid (∀ W, Below w3.heap.size w3 W → Calls Tryd.prog 65 #[.pointer (some ⟨b, 0, none⟩), .int .i64 2] W (Picked W b (n + 20) 2)) := hide (fun W hB => pick_any b _ 2 W ((rd_belowI HR3.out hB).mono (by omega)) (by omega) (by omega))
            obtain ⟨M, A9, L9, c9, hmin, hsl1, hsl2, hA9, hrl9⟩ := tail_sliceI HS3.out
            obtain rfl : M = 1 := by omega
            have HA9 := hide hA9
            have HRL := hide hrl9
            have hL95 : L9 ≤ 6 := by rw [← hrl9, List.length_drop]; omega
            clear hA9 hrl9 hmin
            go_wp2_with fail
            go_region_law (first | (refine step_spread_int (by rfl) _ _ (by rfl) w.heap.size (.slice (some ⟨w5.heap.size, 0, none⟩) 1 1) [u5] (by rfl) (int_lit (heap_alloc_new w5 _) hz5) (by simp) A9 L9 c9 (l.drop 1) HRL.out (by rfl) (HA9.out _ (tail_atI HS5.out (by go_grown))) (by simp <;> omega) (by simp <;> omega) ?_; intro gg cap w6 hown hgrow; have HOW := hide (And.intro hown (end_pushI HG5.out HR5.out (by go_grown) hgrow (Nat.le_refl _))); clear hown hgrow) | (refine step_spread_int (by rfl) _ _ (by rfl) w.heap.size (.slice (some ⟨w5.heap.size + 1, 0, none⟩) 1 1) [u5] (by rfl) (int_lit (heap_twoI w5 _ _) (by omega)) (by simp) A9 L9 c9 (l.drop 1) HRL.out (by rfl) (HA9.out _ (tail_atI HS5.out (by go_grown))) (by simp <;> omega) (by simp <;> omega) ?_; intro gg cap w6 hown hgrow; have HOW := hide (And.intro hown (end_pushI HG5.out HR5.out (by go_grown) hgrow (by show w5.heap.size ≤ w5.heap.size + 1; omega))); clear hown hgrow) | (go_simp; go_at_call 65; refine (HPK.out _ (by go_grown)).mono ?_; rintro e w5 ⟨q5, rfl, hq50, hq51, hR5, hg5⟩; obtain ⟨j5, rfl⟩ : ∃ j5 : Nat, q5 = j5 := ⟨q5.toNat, by omega⟩; have hj5 : (j5 : Int) < 2 := (by omega); have hj6 : j5 < 2 := (by omega); obtain ⟨u5, hu5, hu6, hu7⟩ := pair_atI (a := -1) (b := 21) hj6; have hu8 : -100 ≤ u5 ∧ u5 ≤ 100 := (by omega); have HU := hide hu8; clear hu7 hu8; (try have hcA := cellAI hl3 hg5 hu5); have HG5 := hide ((grown_belowI HG3.out (by go_grown)).trans hg5); have HS5 := hide (row_pickI (IntSl.below HS3.out (by go_grown)) hblt hg5); have HR5 := hide hR5; have hz5 := HG5.out.size; have hz35 : w3.heap.size ≤ w5.heap.size := (by have := hg5.size; simp at this; omega); clear hg5 hR5))
            all_goals
              go_wp2_with fail
              refine bodyPost_ret (results_tmp rfl _ _ _) rfl ⟨[u5] ++ l.drop 1, gg, cap, by rw [List.length_append, HRL.out]; rfl, by rw [List.length_append, HRL.out]; exact HOW.out.1, by rw [List.length_append, HRL.out]; simp; omega, HOW.out.2.1.mono (by omega), HOW.out.2.2, rng_cons HX.out HU.out.1 HU.out.2⟩
          · have hqb1 : (q3 == 1) = false := beq_false_of_ne hq1
            go_wp2_with fail
            refine bodyPost_ret (results_tmp rfl _ _ _) rfl ⟨[1, 1, 1, 1, 1, 1, 1, 1], w3.heap.size, 8, rfl, ones_lit w3 _ hz3, by simp, (HR3.out.kept (fun j hj => heap_alloc_old w3 _ (by omega))).mono (by omega), HG3.out.trans (World.grownBy_alloc w3 _ _), fun x hx => by simp at hx; omega⟩
end Go.Proofs.YteocmjffjinphaaDoor
