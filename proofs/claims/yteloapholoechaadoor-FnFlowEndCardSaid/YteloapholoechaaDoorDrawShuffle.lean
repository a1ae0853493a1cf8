/- Contract of the draw of an order.
   Conditions: the bounds in each statement. -/
import Derived.Test.YteloapholoechaaDoorDrawI
namespace Go.Proofs.YteloapholoechaaDoor
open Go.RowKit Go.ChangeShapes Go.WideShapes Go.ChangeAt Go.Deep

theorem IntSl.frontI {w : World} {lo g L c k : Nat} {l : List Int} (h : IntSl w lo (.slice (some ⟨g, 0, none⟩) L c) l) (hk : k ≤ L) : IntSl w lo (.slice (some ⟨g, 0, none⟩) k c) (l.take k) := by
  obtain ⟨h1, h2⟩ := h
  have hL : (l.take k).length = k := by
    rcases h2 with ⟨hv, _⟩ | ⟨g', cap, cur, hv, _⟩
    · cases hv
    · injection hv with e1 e2 e3
      rw [List.length_take]
      omega
  unfold IntSl
  rw [hL]
  refine ⟨by rw [List.length_map, hL, Nat.mul_one], .inr ?_⟩
  rcases h2 with ⟨hv, _⟩ | ⟨g', cap, cur, hv, hlo, hb, hn, hm, hs, ht⟩
  · cases hv
  · injection hv with e1 e2 e3
    injection e1 with e1
    injection e1 with e1
    subst e1 e2 e3
    refine ⟨g, c, cur, rfl, hlo, hb, by omega, hm, hs, ?_⟩
    rw [List.map_take, ← ht, List.take_take]
    congr 1
    omega
set_option maxRecDepth 100000 in
/-- A part of an owned row, from an index on. -/
theorem drop_sliceI {w : World} {lo g L c k : Nat} {ls : List Int} (h : IntSl w lo (.slice (some ⟨g, 0, none⟩) L c) ls) (hk : k ≤ L) : ∃ (ad : Addr) (m c9 : Nat),
    (∀ W, (Instr.slice 24 (.slice (some ⟨g, 0, none⟩) L c) (some (.int .i64 (k : Int))) none none).run Tryd.prog W = .ok (.slice (some ad) m c9) W) ∧ (∀ W, (Instr.sliceAt 24 (.slice (some ⟨g, 0, none⟩) L c) (some (.int .i64 (k : Int))) none none).run Tryd.prog W = .ok (.slice (some ad) m c9) W) ∧
    (∀ W, IntsAt W (some ⟨g, 0, none⟩) ls → IntsAt W (some ad) (ls.drop k)) ∧ (ls.drop k).length = m ∧ m = L - k := by
  have ht : Tryd.prog.underlying 24 = some (.slice (Tryd.prog.elem 24)) := rfl
  have hz : ∀ W, (sizeOf (Tryd.prog.elem 24)).run Tryd.prog W = .ok 1 W := fun W => by rfl
  obtain ⟨h1, h2, -⟩ := IntSl.capI h
  by_cases hc : c = k
  · have hkL : k = L := by omega
    have e : ∀ W, (Instr.slice 24 (.slice (some ⟨g, 0, none⟩) L c) (some (.int .i64 (k : Int))) none none).run Tryd.prog W = .ok (.slice (some ⟨g, 0, none⟩) (L - k) 0) W := fun W => by
      rw [run_slice_l W _ _ _ _ ht .i64 k (by omega) (by omega), hz]
      simp [Result.andThen, sliced, hc]
    exact ⟨⟨g, 0, none⟩, L - k, 0, e, fun W => (run_sliceAt_slice W _ _ _ _ _ ht).trans (e W), fun W _ => by rw [List.drop_of_length_le (by omega)]; exact IntsAt.nil _ _, by rw [List.length_drop, h1], rfl⟩
  · have e : ∀ W, (Instr.slice 24 (.slice (some ⟨g, 0, none⟩) L c) (some (.int .i64 (k : Int))) none none).run Tryd.prog W = .ok (.slice (some ⟨g, k, none⟩) (L - k) (c - k)) W := fun W => by
      rw [run_slice_l W _ _ _ _ ht .i64 k (by omega) (by omega), hz]
      simp [Result.andThen, sliced, hc, Addr.add]
      omega
    refine ⟨⟨g, k, none⟩, L - k, c - k, e, fun W => (run_sliceAt_slice W _ _ _ _ _ ht).trans (e W), fun W hW => ?_, by rw [List.length_drop, h1], rfl⟩
    intro i p hp
    rw [List.getElem?_drop] at hp
    obtain ⟨b, o, e, hlt, h3⟩ := hW (k + i) p hp
    injection e with e
    injection e with e1 e2
    subst e1 e2
    exact ⟨g, k, rfl, hlt, by rw [show k + i = 0 + (k + i) from by omega]; exact h3⟩
set_option maxRecDepth 100000 in
theorem take_sliceI {L c g k : Nat} (hk : k ≤ L) (hL : L ≤ c) : (∀ W, (Instr.slice 24 (.slice (some ⟨g, 0, none⟩) L c) none (some (.int .i64 (k : Int))) none).run Tryd.prog W = .ok (.slice (some ⟨g, 0, none⟩) k c) W) ∧ (∀ W, (Instr.sliceAt 24 (.slice (some ⟨g, 0, none⟩) L c) none (some (.int .i64 (k : Int))) none).run Tryd.prog W = .ok (.slice (some ⟨g, 0, none⟩) k c) W) := by
  have ht : Tryd.prog.underlying 24 = some (.slice (Tryd.prog.elem 24)) := rfl
  have hz : ∀ W, (sizeOf (Tryd.prog.elem 24)).run Tryd.prog W = .ok 1 W := fun W => by rfl
  have e1 : ∀ W, (Instr.slice 24 (.slice (some ⟨g, 0, none⟩) L c) none (some (.int .i64 (k : Int))) none).run Tryd.prog W = .ok (.slice (some ⟨g, 0, none⟩) k c) W := fun W => by
    rw [run_slice_h W _ _ _ _ ht .i64 k (by omega) (by omega), hz]
    simp [Result.andThen, sliced, Addr.add]
  exact ⟨e1, fun W => (run_sliceAt_slice W _ _ _ _ _ ht).trans (e1 W)⟩
theorem cellBI {w3 w5 : World} {b j : Nat} {a c : Int} {u : Value} (hb : b < w3.heap.size) (hg5 : (w3.alloc (.cells #[.int .i64 a, .int .i64 c] 3)).grownBy w5 (some b)) (hu : (#[Value.int .i64 a, Value.int .i64 c] : Array Value)[j]? = some u) : w5.cell? ⟨w3.heap.size, j, none⟩ = some u := by
  have hb5 : w5.heap[w3.heap.size]? = some (.cells #[.int .i64 a, .int .i64 c] 3) := (hg5.block w3.heap.size (by simp) (fun e => by injection e with e; omega)).trans (heap_alloc_new w3 _)
  rw [cell_of_row _ _ _ _ _ _ hb5]
  exact hu
theorem below_own {w wr : World} {o : Obj} (hg : (w.alloc o).grownBy wr (some w.heap.size)) : Below w.heap.size w wr :=
  (Below.alloc (Below.refl _ _) (Nat.le_refl _) _).grown hg (by simp) (fun j hj => by injection hj with hj; omega)

def DrewO (m : Nat) (w : World) (b n : Nat) (e : Ending) (w' : World) : Prop := ∃ (ls : List Int) (g c : Nat), e = .returned (.slice (some ⟨g, 0, none⟩) ls.length c) ∧ IntSl w' w.heap.size (.slice (some ⟨g, 0, none⟩) ls.length c) ls ∧ ls.length ≤ m ∧ Rd w' b n ∧ w.grownBy w' (some b)

set_option maxRecDepth 100000 in
set_option maxHeartbeats 4000000 in
theorem l20Shuffle_any (b n m : Nat) (k : Int) (w : World) (hR : Rd w b n) (hn : n ≤ 80000) (hm : m ≤ 10) (hk : k ≤ 1000000) :
    Calls Tryd.prog 92 #[.pointer (some ⟨b, 0, none⟩), .int .i64 m, .int .i64 k] w (DrewO (m + 1) w b (n + m + 2)) := by
  have hblt := hR.lt
  have HO : Hid (IntSl (w.alloc (.cells #[] 3)) w.heap.size (.slice (some ⟨w.heap.size, 0, none⟩) 0 0) []) := hide (World.ownsRow_lit w #[] 0 (Nat.le_refl _) (by unfold maxLen; omega) rfl)
  have HRA : Hid (Rd (w.alloc (.cells #[] 3)) b n) := hide (hR.kept (fun j hj => heap_alloc_old w _ (by omega)))
  have HGA : Hid (w.grownBy (w.alloc (.cells #[] 3)) (some b)) := hide (World.grownBy_alloc w _ _)
  go_enter Tryd.func92, Tryd.ntmps92
  go_wp2_with fail
  go_loopw [7, 8] (fun v i wr => ∃ (j : Nat) (l : List Int) (L g c : Nat), j ≤ m ∧ i = .int .i64 j ∧ Hid (L = j) ∧ v = .slice (some ⟨g, 0, none⟩) L c ∧ IntSl wr w.heap.size (.slice (some ⟨g, 0, none⟩) L c) l ∧ Rd wr b (n + j) ∧ w.grownBy wr (some b)) (fun _ i _ => m - (intOf i).toNat)
  case atStart => exact ⟨0, [], 0, w.heap.size, 0, Nat.zero_le _, rfl, hide rfl, rfl, HO.out, HRA.out, HGA.out⟩
  case round =>
    clear HO HRA HGA hR
    obtain ⟨j, l, L, g, c, hj, rfl, HLJ, rfl, hS, hRr, hgr⟩ := hrel
    have hLj1 : L ≤ j := by rw [HLJ.out]; exact Nat.le_refl _
    have hLj2 : j ≤ L := by rw [HLJ.out]; exact Nat.le_refl _
    have hcap := hS.capI
    have HLL : Hid (l.length = L) := hide hcap.1
    have hLc := hcap.2.1
    have hglo := hcap.2.2.2.1
    have HS := hide hS
    have HGR := hide hgr
    have hzr := hgr.size
    clear hS hgr hcap
    by_cases hlt : j < m
    · have hjz : (j : Int) < m := by omega
      have hj0 : (0 : Int) ≤ j := by omega
      go_wp2_with fail
      refine (pick_any b _ ((j : Int) + 1) _ hRr (by omega) (by omega)).mono ?_
      rintro e w2 ⟨a', rfl, ha0, ha1, hR2, hg2⟩
      obtain ⟨a, rfl⟩ : ∃ a : Nat, a' = a := ⟨a'.toNat, by omega⟩
      have haj : a ≤ j := by omega
      have haL : a ≤ L := by omega
      have HS2 := hide (row_pickI HS.out (by omega) hg2)
      have HG2 := hide (HGR.out.trans hg2)
      have HR2 := hide hR2
      have hz2 := HG2.out.size
      have hg2lt := (IntSl.capI HS2.out).2.2.2.2
      obtain ⟨ad, m9, c9, hd1, hd2, hA9, hm9, hm9L⟩ := drop_sliceI HS2.out haL
      obtain ⟨ht1, ht2⟩ := take_sliceI (g := g) haL hLc
      have HA9 := hide hA9
      have HM9 := hide hm9
      have HM9L := hide hm9L
      have hm9b : m9 ≤ 100 := by omega
      have HL0 : Hid (IntSl (w2.alloc (.cells #[] 3)) w2.heap.size (.slice (some ⟨w2.heap.size, 0, none⟩) 0 0) []) := hide (World.ownsRow_lit w2 #[] 0 (Nat.le_refl _) (by unfold maxLen; omega) rfl)
      obtain ⟨T, HT⟩ : ∃ T, Hid (l.take a = T) := ⟨_, hide rfl⟩
      have HTKL : Hid (T.length = a) := hide (by rw [← HT.out, List.length_take, HLL.out]; omega)
      have HLN : Hid ((T ++ [(j : Int)]).length + m9 = j + 1) := hide (by rw [List.length_append, ← HT.out, List.length_take, HLL.out, hm9L]; simp; omega)
      have htk1 : T.length ≤ 1048576 := by rw [HTKL.out]; omega
      have htk2 : (T ++ [(j : Int)]).length + m9 ≤ 1048576 := by rw [HLN.out]; omega
      clear hm9L
      clear hg2 hR2 hA9 hm9
      go_wp2_with (at_builtin; first
        | (refine wpList_wantedI (by rfl) (wp_spread_int _ _ (by rfl) w2.heap.size (.slice (some ⟨w2.heap.size, 0, none⟩) 0 0) [] (by rfl) HL0.out (by simp) ad m9 c9 (l.drop a) HM9.out (by rfl) (HA9.out _ ((IntSl.ints HS2.out).below (by go_grown))) (by simp; omega) (by simp) ?_); intro g3 cap3 w3 hown hgrow; have HB3 : Hid (Below w2.heap.size w2 w3) := hide (below_own hgrow); have HO3 := hide hown; have HS3 : Hid (IntSl w3 w.heap.size (.slice (some ⟨g, 0, none⟩) a c) T) := hide (by rw [← HT.out]; exact IntSl.frontI (IntSl.below HS2.out HB3.out) haL); have HR3 := hide (rd_belowI HR2.out HB3.out); have HG3 := hide (grown_belowI HG2.out HB3.out); have hz3 := HG3.out.size; have hl3 := (IntSl.capI HO3.out).2.2.2; clear hown hgrow)
        | (refine wpList_wantedI (by rfl) (wp_push_intI _ _ (by rfl) w.heap.size (.slice (some ⟨g, 0, none⟩) a c) T (by rfl) (World.ownsRow.alloc HS3.out _) w3.heap.size j (by rfl) (heap_alloc_new w3 _) htk1 (by simp; omega) ?_); intro g4 cap4 w4 hown hgrow; have HO4 := hide hown; have HR4 := hide (rd_grownI (HR3.out.kept (fun j hj => heap_alloc_old w3 _ (by have := HR3.out.lt; omega))) hgrow (fun k hk => by have hk : some g = some k := hk; injection hk with hk; omega)); have HG4 := hide (grown_rowI (HG3.out.trans (World.grownBy_alloc w3 _ _)) hgrow (fun k hk => by have hk : some g = some k := hk; injection hk with hk; omega)); have HA4 := hide (IntSl.ints (World.ownsRow.kept (World.ownsRow.alloc HO3.out _) hgrow (.inr (fun e => by have e : some g3 = some g := e; injection e with e; omega)))); have hz4 := HG4.out.size; clear hown hgrow)
        | (refine wpList_wantedI (by rfl) (wp_spread_int _ _ (by rfl) w.heap.size (.slice (some ⟨g4, 0, none⟩) (T.length + 1) cap4) (T ++ [(j : Int)]) (by rfl) HO4.out (by simp) ⟨g3, 0, none⟩ m9 cap3 ([] ++ l.drop a) (by rw [List.nil_append, HM9.out]) (by rfl) HA4.out htk2 hz4 ?_); intro g5 cap5 w5 hown hgrow; have hlo4 := (IntSl.capI HO4.out).2.2.2; have HO5 := hide hown; have HR5 := hide (rd_grownI HR4.out hgrow (fun k hk => by have hk : some g4 = some k := hk; injection hk with hk; omega)); have HG5 := hide (grown_rowI HG4.out hgrow (fun k hk => by have hk : some g4 = some k := hk; injection hk with hk; omega)); clear hown hgrow))
      go_roundw
      case rel =>
        exact ⟨j + 1, _, T.length + 1 + m9, g5, cap5, hlt, by go_num, hide (by have h := HLN.out; rw [List.length_append] at h; exact h), rfl, (by have h := HO5.out; rw [List.length_append] at h; exact h), HR5.out.mono (by omega), HG5.out⟩
      case measure => simp [intOf]; omega
    · have hjm : m ≤ j := by omega
      have hjz : ¬ (j : Int) < m := by omega
      go_wp2_with fail
      refine (odd_any b _ k _ hRr (by omega) hk).mono ?_
      rintro e w2 ⟨β, rfl, hR2, hg2⟩
      have HS2 := hide (row_pickI HS.out (by omega) hg2)
      have HG2 := hide (HGR.out.trans hg2)
      have HR2 := hide hR2
      have hl2 := hR2.lt
      have hz2 := HG2.out.size
      clear hg2 HS HGR hR2 hRr
      cases β with
      | false =>
        go_wp2_with fail
        refine bodyPost_ret (results_tmp rfl _ _ _) rfl ⟨l, g, c, by rw [HLL.out]; rfl, by rw [HLL.out]; exact HS2.out, by rw [HLL.out]; omega, HR2.out.mono (by omega), HG2.out⟩
      | true =>
        have HS2A := hide (World.ownsRow.alloc HS2.out (.cells #[.int .i64 (m : Int), .int .i64 0] 3))
        have HR2A : Hid (Rd (w2.alloc (.cells #[.int .i64 (m : Int), .int .i64 0] 3)) b _) := hide (HR2.out.kept (fun j hj => heap_alloc_old w2 _ (by omega)))
        have HG2A := hide (HG2.out.trans (World.grownBy_alloc w2 (.cells #[.int .i64 (m : Int), .int .i64 0] 3) _))
        go_wp2_with fail
        refine (pick_any b _ 2 _ HR2A.out (by omega) (by omega)).mono ?_
        rintro e w3 ⟨q3, rfl, hq30, hq31, hR3, hg3⟩
        obtain ⟨j5, rfl⟩ : ∃ j5 : Nat, q3 = j5 := ⟨q3.toNat, by omega⟩
        have hj5 : (j5 : Int) < 2 := by omega
        have hj6 : j5 < 2 := by omega
        obtain ⟨u5, hu5, hu6, -⟩ := pair_atI (a := (m : Int)) (b := 0) hj6
        have hcA := cellBI hl2 hg3 hu5
        have HS3 := hide (row_pickI HS2A.out (by omega) hg3)
        have HG3 := hide (HG2A.out.trans hg3)
        have HR3 := hide hR3
        have hz3 := HG3.out.size
        have HLO := hide (World.ownsRow.lt HS3.out)
        have hll : l.length ≤ 1048576 := by rw [HLL.out]; omega
        clear hg3 hR3
        go_wp2_with (at_builtin; refine wpList_wantedI (by rfl) (wp_push_intI _ _ (by rfl) w.heap.size (.slice (some ⟨g, 0, none⟩) L c) l (by rfl) (World.ownsRow.alloc HS3.out _) w3.heap.size u5 (by rfl) (heap_alloc_new w3 _) hll (by simp; omega) ?_); intro g' cap w4 hown hgrow; have HOW := hide (And.intro hown (And.intro (rd_grownI (HR3.out.kept (fun j hj => heap_alloc_old w3 _ (by have := HR3.out.lt; omega))) hgrow (fun k hk => by have := (HLO.out k hk).1; omega)) (grown_rowI (HG3.out.trans (World.grownBy_alloc w3 _ _)) hgrow (fun k hk => (HLO.out k hk).1)))); clear hown hgrow)
        refine bodyPost_ret (results_tmp rfl _ _ _) rfl ⟨l ++ [u5], g', cap, by rw [List.length_append]; rfl, by rw [List.length_append]; exact HOW.out.1, by rw [List.length_append, HLL.out]; simp; omega, HOW.out.2.1.mono (by omega), HOW.out.2.2⟩
end Go.Proofs.YteloapholoechaaDoor
