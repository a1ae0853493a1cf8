/- Contract of the draw of what is owed.
   Conditions: the bounds in each statement. -/
import Derived.Test.YtgagfaajilbmmaaDoorDrawShuffle
import Derived.Deep.DeepCutAuto
import Derived.StillTailTactics
namespace Go.Proofs.YtgagfaajilbmmaaDoor
open Go.RowKit Go.ChangeShapes Go.WideShapes Go.ChangeAt Go.Deep

theorem rng_more {B C : Int} {l : List Int} (h : ∀ x ∈ l, -B ≤ x ∧ x ≤ B) (hBC : B ≤ C) : ∀ x ∈ l, -C ≤ x ∧ x ≤ C := fun x hx => by
  have := h x hx
  omega
theorem rng_set {B v : Int} {l : List Int} {k : Nat} (h : ∀ x ∈ l, -B ≤ x ∧ x ≤ B) (h0 : -B ≤ v) (h1 : v ≤ B) : ∀ x ∈ l.set k v, -B ≤ x ∧ x ≤ B := fun x hx => by
  rcases List.mem_or_eq_of_mem_set hx with hx | rfl
  · exact h x hx
  · exact ⟨h0, h1⟩
theorem sumW_rng {B C : Int} {l : List Int} (hB : 0 ≤ B) (hB2 : B ≤ 100000) (h : ∀ x ∈ l, -B ≤ x ∧ x ≤ B) {n : Nat} (hl : l.length ≤ n) (hn : n ≤ 100) (hC : B * n ≤ C) : -C ≤ sumW l ∧ sumW l ≤ C := by
  have a := sumW_abs hB hB2 h (by omega)
  have b : B * (l.length : Int) ≤ B * n := Int.mul_le_mul_of_nonneg_left (by omega) hB
  omega
theorem mul_four {p q : Int} (h0 : 0 ≤ p) (h1 : p ≤ 8) (h2 : 0 ≤ q) (h3 : q ≤ 2) : -12 ≤ (p - 4) * (1 + q) ∧ (p - 4) * (1 + q) ≤ 12 := by
  rcases (by omega : q = 0 ∨ q = 1 ∨ q = 2) with rfl | rfl | rfl <;> omega
theorem tri_atI {a b c : Int} {j : Nat} (h : j < 3) : ∃ u, (#[Value.int .i64 a, Value.int .i64 b, Value.int .i64 c] : Array Value)[j]? = some (.int .i64 u) ∧ (∀ h : j < [Value.int .i64 a, Value.int .i64 b, Value.int .i64 c].length, [Value.int .i64 a, Value.int .i64 b, Value.int .i64 c][j]'h = .int .i64 u) ∧ (u = a ∨ u = b ∨ u = c) := by
  rcases (by omega : j = 0 ∨ j = 1 ∨ j = 2) with rfl | rfl | rfl
  · exact ⟨a, rfl, fun _ => rfl, .inl rfl⟩
  · exact ⟨b, rfl, fun _ => rfl, .inr (.inl rfl)⟩
  · exact ⟨c, rfl, fun _ => rfl, .inr (.inr rfl)⟩
theorem cellTI {w3 w5 : World} {b j : Nat} {a c d : Int} {u : Value} (hb : b < w3.heap.size) (hg5 : (w3.alloc (.cells #[.int .i64 a, .int .i64 c, .int .i64 d] 3)).grownBy w5 (some b)) (hu : (#[Value.int .i64 a, Value.int .i64 c, Value.int .i64 d] : Array Value)[j]? = some u) : w5.cell? ⟨w3.heap.size, j, none⟩ = some u := by
  have hb5 : w5.heap[w3.heap.size]? = some (.cells #[.int .i64 a, .int .i64 c, .int .i64 d] 3) := (hg5.block w3.heap.size (by simp) (fun e => by injection e with e; omega)).trans (heap_alloc_new w3 _)
  rw [cell_of_row _ _ _ _ _ _ hb5]
  exact hu

set_option maxRecDepth 100000 in
set_option maxHeartbeats 4000000 in
theorem l20Owed_any (b n : Nat) (k : Int) (w : World) (hR : Rd w b n) (hn : n ≤ 80000) (hk : k ≤ 1000000) :
    Calls Tryd.prog 88 #[.pointer (some ⟨b, 0, none⟩), .int .i64 k] w (DrewI 100000 8 w b (n + 30)) := by
  have hblt := hR.lt
  have HO : Hid (IntSl (w.alloc (.cells #[] 3)) w.heap.size (.slice (some ⟨w.heap.size, 0, none⟩) 0 0) []) := hide (World.ownsRow_lit w #[] 0 (Nat.le_refl _) (by unfold maxLen; omega) rfl)
  have HRA : Hid (Rd (w.alloc (.cells #[] 3)) b n) := hide (hR.kept (fun j hj => heap_alloc_old w _ (by omega)))
  have HGA : Hid (w.grownBy (w.alloc (.cells #[] 3)) (some b)) := hide (World.grownBy_alloc w _ _)
  go_enter Tryd.func88, Tryd.ntmps88
  go_wp2_with fail
  refine (pick_any b n 7 _ HRA.out (by omega) (by omega)).mono ?_
  rintro e w1 ⟨q, rfl, hq0, hq1, hR1, hgw1⟩
  have HS1 : Hid (IntSl w1 w.heap.size (.slice (some ⟨w.heap.size, 0, none⟩) 0 0) []) := hide (row_pickI HO.out hblt hgw1)
  have HG1 : Hid (w.grownBy w1 (some b)) := hide (HGA.out.trans hgw1)
  have HR1 := hide hR1
  have hq6 : q ≤ 6 := by omega
  clear hgw1 hR1 HO HRA HGA hR
  go_wp2_with fail
  go_loopw [5, 6] (fun v i wr => ∃ (j : Nat) (l : List Int) (L g c : Nat), j ≤ 6 ∧ i = .int .i64 j ∧ L + j ≤ 6 ∧ v = .slice (some ⟨g, 0, none⟩) L c ∧ IntSl wr w.heap.size (.slice (some ⟨g, 0, none⟩) L c) l ∧ Rd wr b (n + 1 + 2 * L) ∧ w.grownBy wr (some b) ∧ Hid (∀ x ∈ l, -12 ≤ x ∧ x ≤ 12)) (fun _ i _ => (intOf i).toNat)
  case atStart => exact ⟨q.toNat, [], 0, w.heap.size, 0, by omega, by rw [Int.toNat_of_nonneg hq0], by omega, rfl, HS1.out, HR1.out, HG1.out, hide rng_nil⟩
  case round =>
    clear HS1 HG1 HR1
    obtain ⟨j, l, L, g, c, hj, rfl, hlj, rfl, hS, hRr, hgr, HX⟩ := hrel
    have HLL : Hid (l.length = L) := hide hS.capI.1
    have hlL : l.length ≤ L := Nat.le_of_eq HLL.out
    have HS := hide hS
    have HGR := hide hgr
    have hzr := hgr.size
    clear hS hgr
    by_cases hj0 : 0 < j
    · have hjz : (0 : Int) < j := by omega
      go_wp2_with fail
      refine (pick_any b _ 9 _ hRr (by omega) (by omega)).mono ?_
      rintro e w2 ⟨q2, rfl, hq20, hq21, hR2, hg2⟩
      have HS2 := hide (row_pickI HS.out (by omega) hg2)
      have HG2 := hide (HGR.out.trans hg2)
      have hq22 : q2 ≤ 8 := by omega
      clear hg2
      go_wp2_with fail
      refine (pick_any b _ 3 _ hR2 (by omega) (by omega)).mono ?_
      rintro e w3 ⟨q3, rfl, hq30, hq31, hR3, hg3⟩
      have HS3 := hide (row_pickI HS2.out (by omega) hg3)
      have HG3 := hide (HG2.out.trans hg3)
      have HLO := hide (World.ownsRow.lt HS3.out)
      have hz3 := HG3.out.size
      have HR3 := hide hR3
      obtain ⟨hm0, hm1⟩ := mul_four hq20 hq22 hq30 (by omega)
      obtain ⟨M, hM⟩ : ∃ M, (q2 - 4) * (1 + q3) = M := ⟨_, rfl⟩
      have hwM : IntKind.i64.wrap ((q2 - 4) * (1 + q3)) = M := (IntWalk.i64_in _ (by omega)).trans hM
      rw [hM] at hm0 hm1
      clear hg3 hR3 hR2 HS2 HG2
      go_wp2_with (at_builtin; refine wpList_wantedI (by rfl) (wp_push_intI _ _ (by rfl) w.heap.size (.slice (some ⟨g, 0, none⟩) L c) l (by rfl) (World.ownsRow.alloc HS3.out _) w3.heap.size M (by rfl) (heap_alloc_new w3 _) (by omega) (by simp; omega) ?_); intro g' cap w4 hown hgrow; have HOW := hide (And.intro hown (And.intro (rd_grownI (HR3.out.kept (fun j hj => heap_alloc_old w3 _ (by have := HR3.out.lt; omega))) hgrow (fun k hk => by have := (HLO.out k hk).1; omega)) (grown_rowI (HG3.out.trans (World.grownBy_alloc w3 _ _)) hgrow (fun k hk => (HLO.out k hk).1)))); clear hown hgrow)
      go_roundw
      case rel =>
        obtain ⟨j', rfl⟩ : ∃ j', j = j' + 1 := ⟨j - 1, by omega⟩
        exact ⟨j', l ++ [M], l.length + 1, g', cap, by omega, by go_num, by omega, by rfl, HOW.out.1, HOW.out.2.1.mono (by rw [HLL.out]; omega), HOW.out.2.2, hide (rng_push HX.out (by omega) (by omega))⟩
      case measure => simp [intOf]; omega
    · obtain rfl : j = 0 := by omega
      have HRR := hide hRr
      have hlr := hRr.lt
      clear hRr
      go_upto_if 26 with (fail)
      go_cut [5] (fun v wx => ∃ (l2 : List Int) (L2 g2 c2 : Nat), v = .slice (some ⟨g2, 0, none⟩) L2 c2 ∧ IntSl wx w.heap.size (.slice (some ⟨g2, 0, none⟩) L2 c2) l2 ∧ Rd wx b (n + 1 + 2 * L) ∧ w.grownBy wx (some b) ∧ L2 ≤ 7 ∧ Hid (∀ x ∈ l2, -72 ≤ x ∧ x ≤ 72))
      case first =>
        by_cases hL0 : 0 < L
        · have hLz : (0 : Int) < L := by omega
          have hll : l.length ≤ 1048576 := by omega
          have hsr := sumW_rng (C := 72) (by omega) (by omega) HX.out (n := 6) (by omega) (by omega) (by omega)
          obtain ⟨z, hz⟩ : ∃ z, sumW l = z := ⟨_, rfl⟩
          rw [hz] at hsr
          obtain ⟨hz0, hz1⟩ := hsr
          have HLO := hide (World.ownsRow.lt HS.out)
          have HSC : Hid (Calls Tryd.prog 98 #[.slice (some ⟨g, 0, none⟩) L c] wr fun e w' => e = .returned (.int .i64 z) ∧ wr = w') := hide (by
            have := l1Sum_any _ c _ wr (IntSl.ints HS.out) hll
            rw [hz, HLL.out] at this
            exact this)
          clear hz
          go_wp2_with fail
          refine HSC.out.mono ?_
          rintro e w4 ⟨rfl, rfl⟩
          go_wp2_with (at_builtin; refine wpList_wantedI (by rfl) (wp_push_intI _ _ (by rfl) w.heap.size (.slice (some ⟨g, 0, none⟩) L c) l (by rfl) (World.ownsRow.alloc HS.out _) wr.heap.size (-z) (by rfl) (heap_alloc_new wr _) hll (by simp; omega) ?_); intro g' cap w4 hown hgrow; have HOW := hide (And.intro hown (And.intro (rd_grownI (HRR.out.kept (fun j hj => heap_alloc_old wr _ (by omega))) hgrow (fun k hk => by have := (HLO.out k hk).1; omega)) (grown_rowI (HGR.out.trans (World.grownBy_alloc wr _ _)) hgrow (fun k hk => (HLO.out k hk).1)))); clear hown hgrow)
          go_meet
          exact ⟨l ++ [-z], l.length + 1, g', cap, rfl, HOW.out.1, HOW.out.2.1, HOW.out.2.2, by omega, hide (rng_push (rng_more HX.out (by omega)) (by omega) (by omega))⟩
        · have hLz : ¬ (0 : Int) < L := by omega
          go_wp2_with fail
          go_meet
          exact ⟨l, L, g, c, rfl, HS.out, HRR.out, HGR.out, by omega, hide (rng_more HX.out (by omega))⟩
      case rest =>
        obtain ⟨l2, L2, g2, c2, rfl, hS2, hR2, hg2, hL27, HX2⟩ := hcut
        have HLL2 : Hid (l2.length = L2) := hide hS2.capI.1
        have hlL2 : l2.length ≤ L2 := Nat.le_of_eq HLL2.out
        have HS2 := hide hS2
        have HG2 := hide hg2
        clear hS2 hg2 HS HGR HRR HX HLL hlL
        go_upto_region 8 with fail
        go_cut [40] (fun v wx => ∃ β : Bool, v = .bool β ∧ Hid (β = true → 3 < L2) ∧ IntSl wx w.heap.size (.slice (some ⟨g2, 0, none⟩) L2 c2) l2 ∧ Rd wx b (n + 2 + 2 * L) ∧ w.grownBy wx (some b))
        case first =>
          go_wp2_with fail
          refine (pick_any b _ 3 _ hR2 (by omega) (by omega)).mono ?_
          rintro e w3 ⟨q3, rfl, hq30, hq31, hR3, hg3⟩
          have HS3 := hide (row_pickI HS2.out (by omega) hg3)
          have HG3 := hide (HG2.out.trans hg3)
          have HR3 := hide (hR3.mono (by omega : n + 1 + 2 * L + 1 ≤ n + 2 + 2 * L))
          clear hg3 hR2 hR3 HS2 HG2
          by_cases hq : q3 = 0
          · have hqb : (q3 == 0) = true := by rw [hq]; rfl
            by_cases hL3 : 3 < L2
            · have hLb : decide ((3 : Int) < (L2 : Int)) = true := decide_eq_true (by omega)
              clear hq
              go_wp2_with fail
              go_meet
              exact ⟨true, rfl, hide (fun _ => hL3), HS3.out, HR3.out, HG3.out⟩
            · have hLb : decide ((3 : Int) < (L2 : Int)) = false := decide_eq_false (by omega)
              clear hq
              go_wp2_with fail
              go_meet
              exact ⟨false, rfl, hide (fun h => by cases h), HS3.out, HR3.out, HG3.out⟩
          · have hqb : (q3 == 0) = false := beq_false_of_ne hq
            go_wp2_with fail
            go_meet
            exact ⟨false, rfl, hide (fun h => by cases h), HS3.out, HR3.out, HG3.out⟩
        case rest =>
        obtain ⟨β, rfl, HB, hS3, hR3, hg3⟩ := hcut
        have HS3 := hide hS3
        have HG3 := hide hg3
        have HR3 := hide hR3
        have hl3 := hR3.lt
        clear hS3 hg3 hR3 hR2 HS2 HG2
        go_upto_if 40 with (fail)
        go_cut [] (fun wx => ∃ (l4 : List Int), IntSl wx w.heap.size (.slice (some ⟨g2, 0, none⟩) L2 c2) l4 ∧ Rd wx b (n + 2 + 2 * L) ∧ w.grownBy wx (some b) ∧ Hid (∀ x ∈ l4, -1000 ≤ x ∧ x ≤ 1000))
        case first =>
          cases β with
          | false =>
            go_wp2_with fail
            go_meet
            exact ⟨l2, HS3.out, HR3.out, HG3.out, hide (rng_more HX2.out (by omega))⟩
          | true =>
            have hL3 : 3 < L2 := HB.out rfl
            have hi0 : 0 < l2.length := by rw [HLL2.out]; omega
            have hi1 : 1 < l2.length := by rw [HLL2.out]; omega
            have hi2 : 2 < l2.length := by rw [HLL2.out]; omega
            obtain ⟨x0, hx0⟩ : ∃ x0, l2[0]? = some x0 := ⟨_, List.getElem?_eq_getElem hi0⟩
            obtain ⟨x1, hx1⟩ : ∃ x1, l2[1]? = some x1 := ⟨_, List.getElem?_eq_getElem hi1⟩
            obtain ⟨x2, hx2⟩ : ∃ x2, l2[2]? = some x2 := ⟨_, List.getElem?_eq_getElem hi2⟩
            have hr0 := HX2.out x0 (List.mem_of_getElem? hx0)
            obtain ⟨hr00, hr01⟩ := hr0
            have hr2 := HX2.out x2 (List.mem_of_getElem? hx2)
            obtain ⟨hr20, hr21⟩ := hr2
            have hcap := IntSl.capI HS3.out
            have hgg0 := hcap.2.2.2.1
            have hgg1 := hcap.2.2.2.2
            have hLc := hcap.2.1
            have hcx : c2 ≤ maxLen := hcap.2.2.1
            have HS4 := hide (IntSl.store HS3.out 1 (-x0))
            have HG4 := hide (IntSl.grownSet HS3.out 1 (-x0))
            obtain ⟨l3, HL3⟩ : ∃ l3, Hid (l2.set 1 (-x0) = l3) := ⟨_, hide rfl⟩
            rw [HL3.out] at HS4
            have HL3n : Hid (l3.length = L2) := hide (by rw [← HL3.out, List.length_set, HLL2.out])
            have HX3 : Hid (∀ x ∈ l3, -72 ≤ x ∧ x ≤ 72) := hide (by rw [← HL3.out]; exact rng_set HX2.out (by omega) (by omega))
            have hx2' : l3[2]? = some x2 := by rw [← HL3.out, List.getElem?_set_ne (by omega)]; exact hx2
            have hc0 := IntSl.cellAt HS3.out hx0
            have hc1 := IntSl.cellAt HS3.out hx1
            have hf1 := IntSl.frozenAt HS3.out 1
            have hc2 := IntSl.cellAt HS4.out hx2'
            have hf2 := IntSl.frozenAt HS4.out 2
            have hll3 : l3.length ≤ 1048576 := by rw [HL3n.out]; omega
            have hsr := sumW_rng (C := 504) (by omega) (by omega) HX3.out (n := 7) (by rw [HL3n.out]; omega) (by omega) (by omega)
            obtain ⟨z, hz⟩ : ∃ z, sumW l3 = z := ⟨_, rfl⟩
            rw [hz] at hsr
            obtain ⟨hz0, hz1⟩ := hsr
            have HSC : Hid (∀ W, IntsAt W (some ⟨g2, 0, none⟩) l3 → Calls Tryd.prog 98 #[.slice (some ⟨g2, 0, none⟩) L2 c2] W fun e w' => e = .returned (.int .i64 z) ∧ w' = W) := hide (fun W hI => by
              have := l1Sum_any _ c2 _ W hI hll3
              rw [hz, HL3n.out] at this
              exact this.mono (fun e w' h => ⟨h.1, h.2.symm⟩))
            have HI4 := hide (IntSl.ints HS4.out)
            have HS5 := hide (IntSl.store HS4.out 2 (x2 - z))
            have HG5 := hide (IntSl.grownSet HS4.out 2 (x2 - z))
            have HR4 := hide (rd_grownI HR3.out HG4.out (fun k hk => by injection hk with hk; omega))
            have HR5 := hide (rd_grownI HR4.out HG5.out (fun k hk => by injection hk with hk; omega))
            have HGG := hide (grown_rowI (grown_rowI HG3.out HG4.out (fun k hk => by injection hk with hk; omega)) HG5.out (fun k hk => by injection hk with hk; omega))
            have HX5 : Hid (∀ x ∈ l3.set 2 (x2 - z), -1000 ≤ x ∧ x ≤ 1000) := hide (rng_set (rng_more HX3.out (by omega)) (by omega) (by omega))
            have hy0 : (0 : Int) < L2 := by omega
            have hy1 : (1 : Int) < L2 := by omega
            have hy2 : (2 : Int) < L2 := by omega
            clear hz hx0 hx1 hx2 hx2' hcap hcx
            go_wp2_with fail
            refine still_tail_drew 8 (by kernel_rfl) (by kernel_rfl) ?_
            simp only [List.take_succ_cons, List.take_zero, List.drop_succ_cons, List.drop_zero]
            repeat still_step
            still_call (HSC.out _ HI4.out)
            repeat still_step
            refine wpStill_nil ?_
            go_wp2_with fail
            go_meet
            exact ⟨l3.set 2 (x2 - z), HS5.out, HR5.out, ⟨HGG.out.os, HGG.out.tape, HGG.out.output, HGG.out.size, HGG.out.block⟩, HX5⟩
        case rest =>
        obtain ⟨l4, hS4, hR4, hg4, HX4⟩ := hcut
        have HLL4 : Hid (l4.length = L2) := hide hS4.capI.1
        have HS4 := hide hS4
        have HG4 := hide hg4
        clear hS4 hg4 HS3 HG3 HR3 HX2 HB
        go_wp2_with fail
        refine (odd_any b _ k _ hR4 (by omega) hk).mono ?_
        rintro e w5 ⟨γ, rfl, hR5, hg5⟩
        have HS5 := hide (row_pickI HS4.out hblt hg5)
        have HG5 := hide (HG4.out.trans hg5)
        have HR5 := hide hR5
        have hl5 := hR5.lt
        clear hg5 HS4 HG4 hR4 hR5
        cases γ with
        | false =>
          go_wp2_with fail
          refine bodyPost_ret (results_tmp rfl _ _ _) rfl ⟨l4, g2, c2, by rw [HLL4.out]; rfl, by rw [HLL4.out]; exact HS5.out, by rw [HLL4.out]; omega, HR5.out.mono (by omega), HG5.out, rng_more HX4.out (by omega)⟩
        | true =>
          have HS5A := hide (World.ownsRow.alloc HS5.out (.cells #[.int .i64 1, .int .i64 10000, .int .i64 (-3)] 3))
          have HR5A : Hid (Rd (w5.alloc (.cells #[.int .i64 1, .int .i64 10000, .int .i64 (-3)] 3)) b _) := hide (HR5.out.kept (fun j hj => heap_alloc_old w5 _ (by omega)))
          have HG5A := hide (HG5.out.trans (World.grownBy_alloc w5 (.cells #[.int .i64 1, .int .i64 10000, .int .i64 (-3)] 3) _))
          go_wp2_with fail
          refine (pick_any b _ 3 _ HR5A.out (by omega) (by omega)).mono ?_
          rintro e w6 ⟨q6, rfl, hq60, hq61, hR6, hg6⟩
          obtain ⟨j6, rfl⟩ : ∃ j6 : Nat, q6 = j6 := ⟨q6.toNat, by omega⟩
          have hj6 : (j6 : Int) < 3 := by omega
          have hj7 : j6 < 3 := by omega
          obtain ⟨u6, hu6, hu7, hu8⟩ := tri_atI (a := 1) (b := 10000) (c := -3) hj7
          have hu9 : -100000 ≤ u6 ∧ u6 ≤ 100000 := by omega
          have HU := hide hu9
          have hcA := cellTI hl5 hg6 hu6
          have HS6 := hide (row_pickI HS5A.out (by omega) hg6)
          have HG6 := hide (HG5A.out.trans hg6)
          have HR6 := hide hR6
          have hz6 := HG6.out.size
          have HLO := hide (World.ownsRow.lt HS6.out)
          have hll : l4.length ≤ 1048576 := by rw [HLL4.out]; omega
          clear hg6 hR6 hu8 hu9
          go_wp2_with (at_builtin; refine wpList_wantedI (by rfl) (wp_push_intI _ _ (by rfl) w.heap.size (.slice (some ⟨g2, 0, none⟩) L2 c2) l4 (by rfl) (World.ownsRow.alloc HS6.out _) w6.heap.size u6 (by rfl) (heap_alloc_new w6 _) hll (by simp; omega) ?_); intro g' cap w7 hown hgrow; have HOW := hide (And.intro hown (And.intro (rd_grownI (HR6.out.kept (fun j hj => heap_alloc_old w6 _ (by have := HR6.out.lt; omega))) hgrow (fun k hk => by have := (HLO.out k hk).1; omega)) (grown_rowI (HG6.out.trans (World.grownBy_alloc w6 _ _)) hgrow (fun k hk => (HLO.out k hk).1)))); clear hown hgrow)
          refine bodyPost_ret (results_tmp rfl _ _ _) rfl ⟨l4 ++ [u6], g', cap, by rw [List.length_append]; rfl, by rw [List.length_append]; exact HOW.out.1, by rw [List.length_append, HLL4.out]; simp; omega, HOW.out.2.1.mono (by omega), HOW.out.2.2, rng_push (rng_more HX4.out (by omega)) HU.out.1 HU.out.2⟩
end Go.Proofs.YtgagfaajilbmmaaDoor
