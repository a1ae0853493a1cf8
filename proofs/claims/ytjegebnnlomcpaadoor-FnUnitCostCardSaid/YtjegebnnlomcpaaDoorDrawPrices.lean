/- Contract of the draw of prices.
   Conditions: the bounds in each statement. -/
import Derived.Test.YtjegebnnlomcpaaDoorDrawI
import Derived.Test.YtjegebnnlomcpaaDoorTab
namespace Go.Proofs.YtjegebnnlomcpaaDoor
open Go.RowKit Go.ChangeShapes Go.WideShapes Go.ChangeAt Go.Deep

theorem two_atP {a b : Int} {j : Nat} (h : j < 2) : ∃ u, (#[Value.int .i64 a, Value.int .i64 b] : Array Value)[j]? = some (.int .i64 u) ∧ (u = a ∨ u = b) := by
  rcases (by omega : j = 0 ∨ j = 1) with rfl | rfl
  · exact ⟨a, rfl, .inl rfl⟩
  · exact ⟨b, rfl, .inr rfl⟩
theorem cellT2 {w3 w5 : World} {b j : Nat} {a c : Int} {u : Value} (hb : b < w3.heap.size) (hg5 : (w3.alloc (.cells #[.int .i64 a, .int .i64 c] 3)).grownBy w5 (some b)) (hu : (#[Value.int .i64 a, Value.int .i64 c] : Array Value)[j]? = some u) : w5.cell? ⟨w3.heap.size, j, none⟩ = some u := by
  have hb5 : w5.heap[w3.heap.size]? = some (.cells #[.int .i64 a, .int .i64 c] 3) := (hg5.block w3.heap.size (by simp) (fun e => by injection e with e; omega)).trans (heap_alloc_new w3 _)
  rw [cell_of_row _ _ _ _ _ _ hb5]
  exact hu

theorem rng_setP {B v : Int} {l : List Int} {k : Nat} (h : ∀ x ∈ l, -B ≤ x ∧ x ≤ B) (h0 : -B ≤ v) (h1 : v ≤ B) : ∀ x ∈ l.set k v, -B ≤ x ∧ x ≤ B := fun x hx => by
  rcases List.mem_or_eq_of_mem_set hx with hx | rfl
  · exact h x hx
  · exact ⟨h0, h1⟩

set_option maxRecDepth 100000 in
set_option maxHeartbeats 4000000 in
theorem l20Prices_any (b n N0 : Nat) (A : Option Addr) (c0 : Nat) (k : Int) (w : World) (hR : Rd w b n) (hn : n ≤ 80000) (hN : N0 ≤ 7) (hk : k ≤ 1000000) :
    Calls Tryd.prog 12 #[.pointer (some ⟨b, 0, none⟩), .slice A N0 c0, .int .i64 k] w (DrewI 100 8 w b (n + 12)) := by
  have hblt := hR.lt
  have HO : Hid (IntSl (w.alloc (.cells #[] 3)) w.heap.size (.slice (some ⟨w.heap.size, 0, none⟩) 0 0) []) := hide (World.ownsRow_lit w #[] 0 (Nat.le_refl _) (by unfold maxLen; omega) rfl)
  have HRA : Hid (Rd (w.alloc (.cells #[] 3)) b n) := hide (hR.kept (fun j hj => heap_alloc_old w _ (by omega)))
  have HGA : Hid (w.grownBy (w.alloc (.cells #[] 3)) (some b)) := hide (World.grownBy_alloc w _ _)
  clear hR
  go_enter Tryd.func12, Tryd.ntmps12
  go_wp2_with fail
  go_loopw [7, 8] (fun v i wr => ∃ (j : Nat) (l : List Int) (L g c : Nat), j ≤ N0 ∧ i = .int .i64 j ∧ L ≤ j ∧ v = .slice (some ⟨g, 0, none⟩) L c ∧ IntSl wr w.heap.size (.slice (some ⟨g, 0, none⟩) L c) l ∧ Rd wr b (n + j) ∧ w.grownBy wr (some b) ∧ Hid (∀ x ∈ l, -100 ≤ x ∧ x ≤ 100)) (fun _ i _ => N0 - (intOf i).toNat)
  case atStart => exact ⟨0, [], 0, w.heap.size, 0, by omega, rfl, by omega, rfl, HO.out, HRA.out, HGA.out, hide rng_nil⟩
  case round =>
    clear HO HRA HGA
    obtain ⟨j, l, L, g, c, hj, rfl, hlj, rfl, hS, hRr, hgr, HX⟩ := hrel
    have HLL : Hid (l.length = L) := hide hS.capI.1
    have hlL : l.length ≤ L := Nat.le_of_eq HLL.out
    have HS := hide hS
    have HGR := hide hgr
    have hzr := hgr.size
    clear hS hgr
    by_cases hj0 : j < N0
    · have hjz : (j : Int) < N0 := by omega
      go_wp2_with fail
      refine (pick_any b _ 21 _ hRr (by omega) (by omega)).mono ?_
      rintro e w3 ⟨q3, rfl, hq30, hq31, hR3, hg3⟩
      have HS3 := hide (row_pickI HS.out (by omega) hg3)
      have HG3 := hide (HGR.out.trans hg3)
      have HLO := hide (World.ownsRow.lt HS3.out)
      have hz3 := HG3.out.size
      have HR3 := hide hR3
      clear hg3 hR3
      go_wp2_with (at_builtin; refine wpList_wantedI (by rfl) (wp_push_intI _ _ (by rfl) w.heap.size (.slice (some ⟨g, 0, none⟩) L c) l (by rfl) (World.ownsRow.alloc HS3.out _) w3.heap.size q3 (by rfl) (heap_alloc_new w3 _) (by omega) (by simp; omega) ?_); intro g' cap w4 hown hgrow; have HOW := hide (And.intro hown (And.intro (rd_grownI (HR3.out.kept (fun j hj => heap_alloc_old w3 _ (by have := HR3.out.lt; omega))) hgrow (fun k hk => by have := (HLO.out k hk).1; omega)) (grown_rowI (HG3.out.trans (World.grownBy_alloc w3 _ _)) hgrow (fun k hk => (HLO.out k hk).1)))); clear hown hgrow)
      go_roundw
      case rel => exact ⟨j + 1, l ++ [q3], l.length + 1, g', cap, by omega, by go_num, by omega, by rfl, HOW.out.1, HOW.out.2.1.mono (by omega), HOW.out.2.2, hide (rng_push HX.out (by omega) (by omega))⟩
      case measure => simp [intOf]; omega
    · have hjz : ¬ (j : Int) < N0 := by omega
      go_wp2_with fail
      refine (odd_any b _ k _ hRr (by omega) hk).mono ?_
      rintro e w2 ⟨β, rfl, hR2, hg2⟩
      have HS2 := hide (row_pickI HS.out hblt hg2)
      have HG2 := hide (HGR.out.trans hg2)
      have HR2 := hide hR2
      have hl2 := hR2.lt
      have hll : l.length ≤ 1048576 := by omega
      clear hg2 HS HGR hR2 hRr
      cases β with
      | false =>
        go_wp2_with fail
        refine bodyPost_ret (results_tmp rfl _ _ _) rfl ⟨l, g, c, by rw [HLL.out]; rfl, by rw [HLL.out]; exact HS2.out, by omega, HR2.out.mono (by omega), HG2.out, HX.out⟩
      | true =>
        have hz2 := HG2.out.size
        by_cases hL0 : L = 0
        · have hLb : decide ((0 : Int) < (L : Int)) = false := decide_eq_false (by omega)
          have hLn : ¬ (0 : Int) < (L : Int) := by omega
          have HLO := hide (World.ownsRow.lt HS2.out)
          clear hL0 hLb
          go_wp2_with (at_builtin; refine wpList_wantedI (by rfl) (wp_push_intI _ _ (by rfl) w.heap.size (.slice (some ⟨g, 0, none⟩) L c) l (by rfl) (World.ownsRow.alloc HS2.out _) w2.heap.size 1 (by rfl) (heap_alloc_new w2 _) hll (by simp; omega) ?_); intro g' cap w7 hown hgrow; have HOW := hide (And.intro hown (And.intro (rd_grownI (HR2.out.kept (fun j hj => heap_alloc_old w2 _ (by have := HR2.out.lt; omega))) hgrow (fun k hk => by have := (HLO.out k hk).1; omega)) (grown_rowI (HG2.out.trans (World.grownBy_alloc w2 _ _)) hgrow (fun k hk => (HLO.out k hk).1)))); clear hown hgrow)
          refine bodyPost_ret (results_tmp rfl _ _ _) rfl ⟨l ++ [1], g', cap, by rw [List.length_append]; rfl, by rw [List.length_append]; exact HOW.out.1, by rw [List.length_append, HLL.out]; simp; omega, HOW.out.2.1.mono (by omega), HOW.out.2.2, rng_push HX.out (by omega) (by omega)⟩
        · have hLb : decide ((0 : Int) < (L : Int)) = true := decide_eq_true (by omega)
          have hLp : (0 : Int) < (L : Int) := by omega
          clear hLb
          have hi0 : 0 < l.length := by rw [HLL.out]; omega
          obtain ⟨x0, hx0⟩ : ∃ x0, l[0]? = some x0 := ⟨_, List.getElem?_eq_getElem hi0⟩
          have HX0 := hide hx0
          clear hx0
          go_wp2_with fail
          refine (pick_any b _ 2 _ HR2.out (by omega) (by omega)).mono ?_
          rintro e w3 ⟨q3, rfl, hq30, hq31, hR3, hg3⟩
          have HS3 := hide (row_pickI HS2.out hblt hg3)
          have HG3 := hide (HG2.out.trans hg3)
          have HR3 := hide hR3
          have hz3 := HG3.out.size
          have hl3 := hR3.lt
          clear hg3 hR3 HS2 HG2 HR2
          by_cases hq : q3 = 0
          · subst hq
            have HS3A := hide (World.ownsRow.alloc HS3.out (.cells #[.int .i64 (-1), .int .i64 21] 3))
            have HR3A : Hid (Rd (w3.alloc (.cells #[.int .i64 (-1), .int .i64 21] 3)) b _) := hide (HR3.out.kept (fun j hj => heap_alloc_old w3 _ (by omega)))
            have HG3A := hide (HG3.out.trans (World.grownBy_alloc w3 (.cells #[.int .i64 (-1), .int .i64 21] 3) _))
            go_wp2_with fail
            refine (pick_any b _ 2 _ HR3A.out (by omega) (by omega)).mono ?_
            rintro e w6 ⟨q6, rfl, hq60, hq61, hR6, hg6⟩
            obtain ⟨j6, rfl⟩ : ∃ j6 : Nat, q6 = j6 := ⟨q6.toNat, by omega⟩
            have hj6 : (j6 : Int) < 2 := by omega
            have hj7 : j6 < 2 := by omega
            obtain ⟨u6, hu6, hu8⟩ := two_atP (a := -1) (b := 21) hj7
            have hu9 : -100 ≤ u6 ∧ u6 ≤ 100 := by omega
            have HU := hide hu9
            have hcA := cellT2 hl3 hg6 hu6
            have HS6 := hide (row_pickI HS3A.out hblt hg6)
            have HG6 := hide (HG3A.out.trans hg6)
            have HR6 := hide hR6
            have hcap := IntSl.capI HS6.out
            have hgg0 := hcap.2.2.2.1
            have hgg1 := hcap.2.2.2.2
            have hc0 := IntSl.cellAt HS6.out HX0.out
            have hf0 := IntSl.frozenAt HS6.out 0
            have HS7 := hide (IntSl.store HS6.out 0 u6)
            have HG7 := hide (IntSl.grownSet HS6.out 0 u6)
            have hy0 : (0 : Int) < L := by omega
            have hy1 : 0 < L := by omega
            clear hu8 hu9 hg6 hR6 hcap
            go_wp2_with fail
            refine bodyPost_ret (results_tmp rfl _ _ _) rfl ⟨l.set 0 u6, g, c, by rw [List.length_set, HLL.out]; rfl, by rw [List.length_set, HLL.out]; exact HS7.out, by rw [List.length_set]; omega, (rd_grownI HR6.out HG7.out (fun k hk => by injection hk with hk; omega)).mono (by omega), grown_rowI HG6.out HG7.out (fun k hk => by injection hk with hk; omega), rng_setP HX.out HU.out.1 HU.out.2⟩
          · have hqb : (q3 == 0) = false := beq_false_of_ne hq
            have HLO := hide (World.ownsRow.lt HS3.out)
            go_wp2_with (at_builtin; refine wpList_wantedI (by rfl) (wp_push_intI _ _ (by rfl) w.heap.size (.slice (some ⟨g, 0, none⟩) L c) l (by rfl) (World.ownsRow.alloc HS3.out _) w3.heap.size 1 (by rfl) (heap_alloc_new w3 _) hll (by simp; omega) ?_); intro g' cap w7 hown hgrow; have HOW := hide (And.intro hown (And.intro (rd_grownI (HR3.out.kept (fun j hj => heap_alloc_old w3 _ (by have := HR3.out.lt; omega))) hgrow (fun k hk => by have := (HLO.out k hk).1; omega)) (grown_rowI (HG3.out.trans (World.grownBy_alloc w3 _ _)) hgrow (fun k hk => (HLO.out k hk).1)))); clear hown hgrow)
            refine bodyPost_ret (results_tmp rfl _ _ _) rfl ⟨l ++ [1], g', cap, by rw [List.length_append]; rfl, by rw [List.length_append]; exact HOW.out.1, by rw [List.length_append, HLL.out]; simp; omega, HOW.out.2.1.mono (by omega), HOW.out.2.2, rng_push HX.out (by omega) (by omega)⟩
end Go.Proofs.YtjegebnnlomcpaaDoor
