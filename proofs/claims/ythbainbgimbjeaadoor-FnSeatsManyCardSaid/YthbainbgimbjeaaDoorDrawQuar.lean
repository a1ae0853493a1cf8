/- Contract of the draw of a number of guests and who does not sit with whom.
   Conditions: the bounds in each statement. -/
import Derived.Test.YthbainbgimbjeaaDoorGuarded
import Derived.Test.YthbainbgimbjeaaDoorZeros
import Derived.Test.YthbainbgimbjeaaDoorZ2
namespace Go.Proofs.YthbainbgimbjeaaDoor
open Go.RowKit Go.ChangeShapes Go.WideShapes Go.ChangeAt Go.Deep

theorem wp_push_intQ {W : World} {o : Oper} {a : Act} {K : Act → World → Prop} {Q : Exit → Act → World → Prop} (s x : Operand)
    (ho : o.op = .call { callee := .builtin .append, args := #[s, x], argTypes := #[23, 23] }) (lo : Nat) (v : Value) (xs : List Int) (hs : a.eval s = v) (hown : IntSl W lo v xs) (g : Nat) (y : Int)
    (hx : a.eval x = .slice (some ⟨g, 0, none⟩) 1 1) (hg : W.heap[g]? = some (.cells #[.int .i64 y] 3 (0, 0))) (hn : xs.length ≤ 1048576) (hlo : lo ≤ W.heap.size)
    (h : ∀ g' cap w', IntSl w' lo (.slice (some ⟨g', 0, none⟩) (xs.length + 1) cap) (xs ++ [y]) → W.grownBy w' v.ownBlock → K (a.put o.dst (.slice (some ⟨g', 0, none⟩) (xs.length + 1) cap)) w') : o.wp Tryd.prog a W K Q := by
  obtain ⟨i0, hi, hz0, hz1, hz2⟩ := info_parts info3
  refine wp_append_lies W s x 23 ho lo 3 i0 (.int .i64 0) 1 8 Tryd.underlying23 hi hz0 hz1 hz2 rfl (by decide) v xs.length (xs.map (.int .i64)) hs hown ⟨g, 0, none⟩ 1 1 [.int .i64 y] hx rfl
    (World.news_of_block (cs := #[.int .i64 y]) hg) (ints_oneCell .i64 [y]) (by decide) (by unfold maxLen; omega) (by omega) hlo _ rfl ?_
  intro g' cap w' h1 h2 _ _
  refine h g' cap w' ?_ h2
  unfold IntSl
  rw [List.length_append, List.map_append]
  exact h1

/-- A number of guests and quarrels, drawn. -/
def DrewQuar (w : World) (b n : Nat) (e : Ending) (w' : World) : Prop := ∃ (gs : Int) (ls : List Int) (g c : Nat), e = .returned (.tuple #[.int .i64 gs, .slice (some ⟨g, 0, none⟩) ls.length c]) ∧
  IntSl w' w.heap.size (.slice (some ⟨g, 0, none⟩) ls.length c) ls ∧ ls.length ≤ 7 ∧ (∀ x ∈ ls, 0 ≤ x ∧ x ≤ 4000) ∧ 0 ≤ gs ∧ gs ≤ 6 ∧ Rd w' b (n + 50) ∧ w.grownBy w' (some b)

set_option maxRecDepth 100000 in
set_option maxHeartbeats 4000000 in
theorem l20Quarrels_any (b n : Nat) (k : Int) (w : World) (hR : Rd w b n) (hn : n ≤ 80000) (hk : k ≤ 1000000) :
    Calls Tryd.prog 60 #[.pointer (some ⟨b, 0, none⟩), .int .i64 k] w (DrewQuar w b n) := by
  have hblt := hR.lt
  go_enter Tryd.func60, Tryd.ntmps60
  go_wp2_with fail
  refine (pick_any b n 7 _ hR (by omega) (by omega)).mono ?_
  rintro e w0 ⟨gs, rfl, hg0, hg1, hR0, hgw0⟩
  obtain ⟨N, rfl⟩ : ∃ N : Nat, gs = N := ⟨gs.toNat, by omega⟩
  have hN6 : N ≤ 6 := by omega
  have hz0 := hgw0.size
  have hlt0 := hR0.lt
  have hmk : ∀ w, (Instr.makeSlice 23 (.int .i64 (N : Int)) (.int .i64 (N : Int))).run Tryd.prog w = .ok (.slice (some ⟨w.heap.size, 0, none⟩) N N) (w.alloc (.cells (madeCells #[.int .i64 0] N) 3)) := fun w => make_ints N (by omega) w
  have HZ := hide (zeros_tabG w0 (lo := w.heap.size) N hz0 (by omega))
  have HRA : Hid (Rd (w0.alloc (.cells (madeCells #[.int .i64 0] N) 3)) b (n + 1)) := hide (hR0.kept (fun j hj => heap_alloc_old w0 _ (by omega)))
  have HGA := hide (hgw0.trans (World.grownBy_alloc w0 (.cells (madeCells #[.int .i64 0] N) 3) _))
  clear hgw0 hR0
  go_wp2_with fail
  refine (pick_any b (n + 1) 4 _ HRA.out (by omega) (by omega)).mono ?_
  rintro e w1 ⟨q, rfl, hq0, hq1, hR1, hgw1⟩
  have HS1 : Hid (IntSl w1 w.heap.size (.slice (some ⟨w0.heap.size, 0, none⟩) N N) (tab N (fun _ => 0))) := hide (HZ.out.pick hblt hgw1)
  have HG1 : Hid (w.grownBy w1 (some b)) := hide (HGA.out.trans hgw1)
  have HR1 := hide hR1
  clear hgw1 hR1 HZ HRA HGA hmk
  have hwq : IntKind.i64.wrap (1 + q) = 1 + q := IntWalk.i64_in _ (by omega)
  go_wp2_with fail
  go_loopw [9] (fun v wr => ∃ (a : Nat) (f : Nat → Int), a ≤ N ∧ v = .int .i64 a ∧ Hid (∀ i, i < N → 0 ≤ f i ∧ f i ≤ 64 * (6 * (a : Int))) ∧ IntSl wr w.heap.size (.slice (some ⟨w0.heap.size, 0, none⟩) N N) (tab N f) ∧ Rd wr b (n + 2 + 6 * a) ∧ w.grownBy wr (some b)) (fun v _ => N - (intOf v).toNat)
  case atStart => exact ⟨0, fun _ => 0, Nat.zero_le _, rfl, hide (fun _ _ => by simp), HS1.out, HR1.out.mono (by omega), HG1.out⟩
  case round =>
    clear HS1 HG1 HR1
    obtain ⟨a, f0, ha, rfl, HF0, hS, hRr, hgr⟩ := hrel
    have HS0 := hide hS
    have HG0 := hide hgr
    have HR0 := hide hRr
    clear hS hgr hRr
    by_cases hal : a < N
    · have haz : (a : Int) < N := by omega
      have ha0 : (0 : Int) ≤ a := by omega
      go_wp2_with fail
      go_loopw [10] (fun v wr2 => ∃ (j : Nat) (f : Nat → Int), j ≤ a ∧ v = .int .i64 j ∧ Hid (∀ i, i < N → 0 ≤ f i ∧ f i ≤ 64 * (6 * (a : Int) + j)) ∧ IntSl wr2 w.heap.size (.slice (some ⟨w0.heap.size, 0, none⟩) N N) (tab N f) ∧ Rd wr2 b (n + 2 + 6 * a + j) ∧ w.grownBy wr2 (some b)) (fun v _ => a - (intOf v).toNat)
      case atStart => exact ⟨0, f0, Nat.zero_le _, rfl, hide (fun i hi => by have := HF0.out i hi; omega), HS0.out, HR0.out.mono (by omega), HG0.out⟩
      case round =>
        clear HF0 HS0 HG0 HR0
        obtain ⟨j, f, hj, rfl, HF, hS, hRr, hgr⟩ := hrel
        have HS := hide hS
        have HGR := hide hgr
        have HRR := hide hRr
        clear hS hgr hRr
        by_cases hjl : j < a
        · have hjz : (j : Int) < a := by omega
          have hj0 : (0 : Int) ≤ j := by omega
          have hjN : (j : Int) < N := by omega
          have hjN2 : j < N := by omega
          have hja : ¬ j = a := by omega
          have haj : ¬ a = j := by omega
          go_wp2_with fail
          refine (pick_any b _ 5 _ HRR.out (by omega) (by omega)).mono ?_
          rintro e w3 ⟨q3, rfl, hq30, hq31, hR3, hg3⟩
          have HS3 := hide (HS.out.pick (by omega) hg3)
          have HG3 := hide (HGR.out.trans hg3)
          have HR3 := hide hR3
          clear hg3 hR3 HS HGR HRR
          by_cases hqq : q3 < 1 + q
          · have hfa := HF.out a hal
            have hfj := HF.out j hjN2
            have hpa := pow_range6 a (by omega)
            have hpj := pow_range6 j (by omega)
            have hcA := HS3.out.cellAt (tab_at (f := f) hal)
            have hfzA := HS3.out.frozenAt a
            have hcJ := HS3.out.cellAt (tab_at (f := f) hjN2)
            have hfzJ := HS3.out.frozenAt j
            obtain ⟨v, hv⟩ : ∃ v, f a = v := ⟨_, rfl⟩
            obtain ⟨u, hu⟩ : ∃ u, f j = u := ⟨_, rfl⟩
            rw [hv] at hcA hfa
            rw [hu] at hcJ hfj
            have hw1 : IntKind.i64.wrap ((2 : Int) ^ j) = (2 : Int) ^ j := IntWalk.i64_in _ (by omega)
            have hw2 : IntKind.i64.wrap ((2 : Int) ^ a) = (2 : Int) ^ a := IntWalk.i64_in _ (by omega)
            have hw3 : IntKind.i64.wrap (v + (2 : Int) ^ j) = v + (2 : Int) ^ j := IntWalk.i64_in _ (by omega)
            have hw4 : IntKind.i64.wrap (u + (2 : Int) ^ a) = u + (2 : Int) ^ a := IntWalk.i64_in _ (by omega)
            have g1 := IntSl.grownSet HS3.out a (v + (2 : Int) ^ j)
            have HN1 : Hid (IntSl (w3.setCell ⟨w0.heap.size, a, none⟩ (.int .i64 (v + (2 : Int) ^ j))) w.heap.size (.slice (some ⟨w0.heap.size, 0, none⟩) N N) (tab N (fun i => if i = a then v + (2 : Int) ^ j else f i))) := hide (by
              have := IntSl.store HS3.out a (v + (2 : Int) ^ j)
              rw [tab_set] at this
              exact this)
            have HRN1 := hide (rd_grown HR3.out g1 (fun k hk => by injection hk with hk; omega))
            have HGN1 := hide (grown_row HG3.out g1 (fun k hk => by injection hk with hk; omega))
            have hcJ2 := HN1.out.cellAt (tab_at (f := fun i => if i = a then v + (2 : Int) ^ j else f i) hjN2)
            have hfzJ2 := HN1.out.frozenAt j
            rw [if_neg hja, hu] at hcJ2
            have g2 := IntSl.grownSet HN1.out j (u + (2 : Int) ^ a)
            have HN2 : Hid (IntSl ((w3.setCell ⟨w0.heap.size, a, none⟩ (.int .i64 (v + (2 : Int) ^ j))).setCell ⟨w0.heap.size, j, none⟩ (.int .i64 (u + (2 : Int) ^ a))) w.heap.size (.slice (some ⟨w0.heap.size, 0, none⟩) N N) (tab N (fun i => if i = j then u + (2 : Int) ^ a else if i = a then v + (2 : Int) ^ j else f i))) := hide (by
              have := IntSl.store HN1.out j (u + (2 : Int) ^ a)
              rw [tab_set] at this
              exact this)
            have HRN2 := hide (rd_grown HRN1.out g2 (fun k hk => by injection hk with hk; omega))
            have HGN2 := hide (grown_row HGN1.out g2 (fun k hk => by injection hk with hk; omega))
            have HF2 : Hid (∀ i, i < N → 0 ≤ (if i = j then u + (2 : Int) ^ a else if i = a then v + (2 : Int) ^ j else f i) ∧ (if i = j then u + (2 : Int) ^ a else if i = a then v + (2 : Int) ^ j else f i) ≤ 64 * (6 * (a : Int) + ((j + 1 : Nat) : Int))) := hide (fun i hi => by
              have := HF.out i hi
              split
              · omega
              · split <;> omega)
            clear g1 g2 hv hu HF
            go_wp2_with fail
            refine still_tail_drew 10 (by kernel_rfl) (by kernel_rfl) ?_
            simp only [List.take_succ_cons, List.take_zero, List.drop_succ_cons, List.drop_zero]
            repeat still_step
            refine wpStill_nil ?_
            go_wp2_with fail
            refine still_tail_drew 10 (by kernel_rfl) (by kernel_rfl) ?_
            simp only [List.take_succ_cons, List.take_zero, List.drop_succ_cons, List.drop_zero]
            repeat still_step
            refine wpStill_nil ?_
            go_wp2_with fail
            go_roundw
            case rel => exact ⟨j + 1, _, hjl, by go_num, HF2, IntSl.drew (IntSl.drew HN2.out), (HRN2.out.kept (fun _ _ => rfl)).mono (by omega), HGN2.out.trans ⟨rfl, rfl, rfl, Nat.le_refl _, fun _ _ _ => rfl⟩⟩
            case measure => simp [intOf]; omega
          · go_wp2_with fail
            go_roundw
            case rel => exact ⟨j + 1, f, hjl, by go_num, hide (fun i hi => by have := HF.out i hi; omega), HS3.out, HR3.out.mono (by omega), HG3.out⟩
            case measure => simp [intOf]; omega
        · go_wp2_with fail
          go_roundw
          case rel => exact ⟨a + 1, f, hal, by go_num, hide (fun i hi => by have := HF.out i hi; omega), HS.out, HRR.out.mono (by omega), HGR.out⟩
          case measure => simp [intOf]; omega
    · have HLE : Hid (∀ x ∈ tab N f0, 0 ≤ x ∧ x ≤ 4000) := hide (fun x hx => by
        obtain ⟨i, hi, rfl⟩ := List.mem_map.1 hx
        have := HF0.out i (List.mem_range.1 hi)
        omega)
      go_wp2_with fail
      refine (odd_any b _ k _ HR0.out (by omega) hk).mono ?_
      rintro e wo ⟨β, rfl, hRo, hgo⟩
      have HSo := hide (HS0.out.pick (by omega) hgo)
      have HGo := hide (HG0.out.trans hgo)
      have hzo := HGo.out.size
      have hlo := hRo.lt
      clear hgo HS0 HG0 HR0 HF0
      generalize hT : tab N f0 = T at *
      have HTL : Hid (T.length = N) := hide (by rw [← hT, tab_len])
      clear hT
      cases β with
      | false =>
        go_wp2_with fail
        refine bodyPost_ret (results_tmp2 rfl _ _ _) rfl ⟨N, T, w0.heap.size, N, by rw [HTL.out]; rfl, by rw [HTL.out]; exact HSo.out, by rw [HTL.out]; omega, HLE.out, by omega, by omega, hRo.mono (by omega), HGo.out⟩
      | true =>
        go_wp2_with fail
        refine (pick_any b _ 3 _ hRo (by omega) (by omega)).mono ?_
        rintro e wp ⟨v3, rfl, hv30, hv31, hRp, hgp⟩
        have HSp := hide (HSo.out.pick (by omega) hgp)
        have HGp := hide (HGo.out.trans hgp)
        have HLO := hide (World.ownsRow.lt HSp.out)
        have hzp := HGp.out.size
        have hlp := hRp.lt
        clear hgp
        by_cases hq : v3 = 0
        · subst hq
          have HLE2 : Hid (∀ x ∈ T ++ [(0 : Int)], 0 ≤ x ∧ x ≤ 4000) := hide (fun x hx => by
            rcases List.mem_append.1 hx with h | h
            · exact HLE.out x h
            · obtain rfl : x = 0 := by simpa using h
              omega)
          have hl7 : T.length ≤ 6 := by rw [HTL.out]; omega
          go_wp2_with (at_builtin; refine wpList_wanted (by rfl) (wp_push_intQ _ _ (by rfl) w.heap.size (.slice (some ⟨w0.heap.size, 0, none⟩) N N) T (by rfl) (World.ownsRow.alloc HSp.out _) wp.heap.size 0 (by rfl) (heap_alloc_new wp _) (by omega) (by simp; omega) ?_); intro g' cap w4 hown hgrow; have HOW := hide (And.intro hown (And.intro (rd_grown (hRp.kept (fun j hj => heap_alloc_old wp _ (by have := hRp.lt; omega))) hgrow (fun k hk => by have := (HLO.out k hk).1; omega)) (grown_row (HGp.out.trans (World.grownBy_alloc wp _ _)) hgrow (fun k hk => (HLO.out k hk).1)))); clear hown hgrow)
          refine bodyPost_ret (results_tmp2 rfl _ _ _) rfl ⟨N, T ++ [0], g', cap, by rw [List.length_append]; rfl, by rw [List.length_append]; exact HOW.out.1, by rw [List.length_append]; simp; omega, HLE2.out, by omega, by omega, HOW.out.2.1.mono (by omega), HOW.out.2.2⟩
        · have hqb : (v3 == 0) = false := by simpa using hq
          by_cases hq1 : v3 = 1
          · subst hq1
            have HL : Hid (IntSl (wp.alloc (.cells #[.int .i64 2, .int .i64 0] 3)) w.heap.size (.slice (some ⟨wp.heap.size, 0, none⟩) 2 2) [2, 0]) := hide (World.ownsRow_lit wp #[.int .i64 2, .int .i64 0] 2 hzp (by unfold maxLen; omega) rfl)
            go_wp2_with fail
            refine bodyPost_ret (results_tmp2 rfl _ _ _) rfl ⟨2, [2, 0], wp.heap.size, 2, rfl, HL.out, by simp, fun x hx => by simp at hx; omega, by omega, by omega, (hRp.kept (fun j hj => heap_alloc_old wp _ (by omega))).mono (by omega), HGp.out.trans (World.grownBy_alloc wp _ _)⟩
          · have hqb1 : (v3 == 1) = false := by simpa using hq1
            have HL : Hid (IntSl (wp.alloc (.cells #[.int .i64 1, .int .i64 0] 3)) w.heap.size (.slice (some ⟨wp.heap.size, 0, none⟩) 2 2) [1, 0]) := hide (World.ownsRow_lit wp #[.int .i64 1, .int .i64 0] 2 hzp (by unfold maxLen; omega) rfl)
            go_wp2_with fail
            refine bodyPost_ret (results_tmp2 rfl _ _ _) rfl ⟨2, [1, 0], wp.heap.size, 2, rfl, HL.out, by simp, fun x hx => by simp at hx; omega, by omega, by omega, (hRp.kept (fun j hj => heap_alloc_old wp _ (by omega))).mono (by omega), HGp.out.trans (World.grownBy_alloc wp _ _)⟩
end Go.Proofs.YthbainbgimbjeaaDoor
