/- Contract of the draw of a number of guests and a menu.
   Conditions: the bounds in each statement. -/
import Derived.Test.YthbainbgimbjeaaDoorGuarded
import Derived.Test.YthbainbgimbjeaaDoorZ3
import Derived.Test.YthbainbgimbjeaaDoorZeros
namespace Go.Proofs.YthbainbgimbjeaaDoor
open Go.RowKit Go.ChangeShapes Go.WideShapes Go.ChangeAt Go.Deep

theorem wp_push_intG {W : World} {o : Oper} {a : Act} {K : Act → World → Prop} {Q : Exit → Act → World → Prop} (s x : Operand)
    (ho : o.op = .call { callee := .builtin .append, args := #[s, x], argTypes := #[23, 23] }) (lo : Nat) (v : Value) (xs : List Int) (hs : a.eval s = v) (hown : IntSl W lo v xs) (g : Nat) (y : Int)
    (hx : a.eval x = .slice (some ⟨g, 0, none⟩) 1 1) (hg : W.heap[g]? = some (.cells #[.int .i64 y] 3 (0, 0))) (hn : xs.length ≤ 1048576) (hlo : lo ≤ W.heap.size)
    (h : ∀ g' cap w', IntSl w' lo (.slice (some ⟨g', 0, none⟩) (xs.length + 1) cap) (xs ++ [y]) → W.grownBy w' v.ownBlock → K (a.put o.dst (.slice (some ⟨g', 0, none⟩) (xs.length + 1) cap)) w') : o.wp Tryd.prog a W K Q := by
  obtain ⟨i0, hi, hz0, hz1, hz2⟩ := info_parts info3
  refine wp_append_lies W s x 23 ho lo 3 i0 (.int .i64 0) 1 8 Tryd.underlying23 hi hz0 hz1 hz2 rfl (by decide) v xs.length (xs.map (.int .i64)) hs hown ⟨g, 0, none⟩ 1 1 [.int .i64 y] hx rfl
    (World.news_of_block (cs := #[.int .i64 y]) hg) (ints_oneCell .i64 [y]) (by decide) (by unfold maxLen; omega) (by omega) hlo _ rfl ?_
  intro g' cap w' h1 h2 _ _
  refine h g' cap w' ?_ h2
  unfold IntSl
  rw [List.length_append, List.map_append]
  exact h1

theorem fedGo_lt {d : Int} {k : Nat} : ∀ (m : List Int) (j : Nat) (out : Int), (∀ x ∈ m, 0 ≤ x ∧ x < 2 ^ k) → 0 ≤ out → out < 2 ^ k → 0 ≤ fedGo d j m out ∧ fedGo d j m out < 2 ^ k
  | [], _, out, _, h0, h1 => ⟨h0, h1⟩
  | x :: r, j, out, hm, h0, h1 => by
    unfold fedGo
    have hx := hm x (by simp)
    have e : ((2 ^ k : Nat) : Int) = (2 : Int) ^ k := by simp
    have hlt : out.toNat ||| x.toNat < 2 ^ k := Nat.or_lt_two_pow (by omega) (by omega)
    split
    · exact fedGo_lt r _ _ (fun y hy => hm y (by simp [hy])) (by unfold orI; omega) (by unfold orI; omega)
    · exact fedGo_lt r _ _ (fun y hy => hm y (by simp [hy])) h0 h1

/-- A number of guests and a menu, drawn: each dish is a set below 65. -/
def DrewMenu (w : World) (b n : Nat) (e : Ending) (w' : World) : Prop := ∃ (gs : Int) (ls : List Int) (g c : Nat), e = .returned (.tuple #[.int .i64 gs, .slice (some ⟨g, 0, none⟩) ls.length c]) ∧
  IntSl w' w.heap.size (.slice (some ⟨g, 0, none⟩) ls.length c) ls ∧ ls.length ≤ 7 ∧ (∀ x ∈ ls, 0 ≤ x ∧ x ≤ 64) ∧ -1 ≤ gs ∧ gs ≤ 7 ∧ Rd w' b (n + 20) ∧ w.grownBy w' (some b)

set_option maxRecDepth 100000 in
set_option maxHeartbeats 4000000 in
theorem l20Menu_any (b n : Nat) (k : Int) (w : World) (hR : Rd w b n) (hn : n ≤ 80000) (hk : k ≤ 1000000) :
    Calls Tryd.prog 38 #[.pointer (some ⟨b, 0, none⟩), .int .i64 k] w (DrewMenu w b n) := by
  have hblt := hR.lt
  go_enter Tryd.func38, Tryd.ntmps38
  go_wp2_with fail
  refine (pick_any b n 7 _ hR (by omega) (by omega)).mono ?_
  rintro e w0 ⟨gs, rfl, hg0, hg1, hR0, hgw0⟩
  have hg6 : gs ≤ 6 := by omega
  have hp := pow_range6 gs.toNat (by omega)
  have hz0 := hgw0.size
  have hlt0 := hR0.lt
  have HO : Hid (IntSl (w0.alloc (.cells #[] 3)) w.heap.size (.slice (some ⟨w0.heap.size, 0, none⟩) 0 0) []) := hide (World.ownsRow_lit w0 #[] 0 hz0 (by unfold maxLen; omega) rfl)
  have HRA : Hid (Rd (w0.alloc (.cells #[] 3)) b (n + 1)) := hide (hR0.kept (fun j hj => heap_alloc_old w0 _ (by omega)))
  have HGA : Hid (w.grownBy (w0.alloc (.cells #[] 3)) (some b)) := hide (hgw0.trans (World.grownBy_alloc w0 _ _))
  clear hgw0 hR0
  go_wp2_with fail
  refine (pick_any b (n + 1) 7 _ HRA.out (by omega) (by omega)).mono ?_
  rintro e w1 ⟨q, rfl, hq0, hq1, hR1, hgw1⟩
  have HS1 : Hid (IntSl w1 w.heap.size (.slice (some ⟨w0.heap.size, 0, none⟩) 0 0) []) := hide (HO.out.pick hblt hgw1)
  have HG1 : Hid (w.grownBy w1 (some b)) := hide (HGA.out.trans hgw1)
  have HR1 := hide hR1
  have hq6 : q ≤ 6 := by omega
  clear hgw1 hR1 HO HRA HGA
  go_wp2_with fail
  go_loopw [7, 8] (fun v i wr => ∃ (j : Nat) (l : List Int) (L g c : Nat), j ≤ 6 ∧ i = .int .i64 j ∧ L + j ≤ 6 ∧ v = .slice (some ⟨g, 0, none⟩) L c ∧ Hid (∀ x ∈ l, 0 ≤ x ∧ x < 2 ^ gs.toNat) ∧ IntSl wr w.heap.size (.slice (some ⟨g, 0, none⟩) L c) l ∧ Rd wr b (n + 2 + L) ∧ w.grownBy wr (some b)) (fun _ i _ => (intOf i).toNat)
  case atStart => exact ⟨q.toNat, [], 0, w0.heap.size, 0, by omega, by rw [Int.toNat_of_nonneg hq0], by omega, rfl, hide (fun x hx => by simp at hx), HS1.out, HR1.out, HG1.out⟩
  case round =>
    clear HS1 HG1 HR1
    obtain ⟨j, l, L, g, c, hj, rfl, hlj, rfl, HLR, hS, hRr, hgr⟩ := hrel
    have HLL : Hid (l.length = L) := hide hS.cap.1
    have hlL : l.length ≤ L := Nat.le_of_eq HLL.out
    have HS := hide hS
    have HGR := hide hgr
    have hzr := hgr.size
    clear hS hgr
    by_cases hj0 : 0 < j
    · have hjz : (0 : Int) < j := by omega
      go_wp2_with fail
      refine (pick_any b _ (2 ^ gs.toNat) _ hRr (by omega) (by omega)).mono ?_
      rintro e w3 ⟨q3, rfl, hq30, hq31, hR3, hg3⟩
      have HS3 := hide (HS.out.pick (by omega) hg3)
      have HG3 := hide (HGR.out.trans hg3)
      have HLO := hide (World.ownsRow.lt HS3.out)
      have hz3 := HG3.out.size
      have HR3 := hide hR3
      have HLR2 : Hid (∀ x ∈ l ++ [q3], 0 ≤ x ∧ x < 2 ^ gs.toNat) := hide (fun x hx => by
        rcases List.mem_append.1 hx with h | h
        · exact HLR.out x h
        · obtain rfl : x = q3 := by simpa using h
          omega)
      clear hg3 hR3
      go_wp2_with (at_builtin; refine wpList_wanted (by rfl) (wp_push_intG _ _ (by rfl) w.heap.size (.slice (some ⟨g, 0, none⟩) L c) l (by rfl) (World.ownsRow.alloc HS3.out _) w3.heap.size q3 (by rfl) (heap_alloc_new w3 _) (by omega) (by simp; omega) ?_); intro g' cap w4 hown hgrow; have HOW := hide (And.intro hown (And.intro (rd_grown (HR3.out.kept (fun j hj => heap_alloc_old w3 _ (by have := HR3.out.lt; omega))) hgrow (fun k hk => by have := (HLO.out k hk).1; omega)) (grown_row (HG3.out.trans (World.grownBy_alloc w3 _ _)) hgrow (fun k hk => (HLO.out k hk).1)))); clear hown hgrow)
      go_roundw
      case rel =>
        obtain ⟨j', rfl⟩ : ∃ j', j = j' + 1 := ⟨j - 1, by omega⟩
        exact ⟨j', l ++ [q3], l.length + 1, g', cap, by omega, by go_num, by omega, by rfl, HLR2, HOW.out.1, HOW.out.2.1.mono (by rw [HLL.out]; omega), HOW.out.2.2⟩
      case measure => simp [intOf]; omega
    · obtain rfl : j = 0 := by omega
      have HLE : Hid (∀ x ∈ l, 0 ≤ x ∧ x ≤ 64) := hide (fun x hx => by have := HLR.out x hx; omega)
      by_cases hL0 : L = 0
      · subst hL0
        go_wp2_with fail
        refine (odd_any b _ k _ hRr (by omega) hk).mono ?_
        rintro e wo ⟨β, rfl, hRo, hgo⟩
        have HSo := hide (HS.out.pick (by omega) hgo)
        have HGo := hide (HGR.out.trans hgo)
        have hzo := HGo.out.size
        have hlo := hRo.lt
        clear hgo
        cases β with
        | false =>
          go_wp2_with fail
          refine bodyPost_ret (results_tmp2 rfl _ _ _) rfl ⟨gs, l, g, c, by rw [HLL.out]; rfl, by rw [HLL.out]; exact HSo.out, by rw [HLL.out]; omega, HLE.out, by omega, by omega, hRo.mono (by omega), HGo.out⟩
        | true =>
          go_wp2_with fail
          refine (pick_any b _ 3 _ hRo (by omega) (by omega)).mono ?_
          rintro e wp ⟨v3, rfl, hv30, hv31, hRp, hgp⟩
          have HSp := hide (HSo.out.pick (by omega) hgp)
          have HGp := hide (HGo.out.trans hgp)
          have HLO := hide (World.ownsRow.lt HSp.out)
          have hzp := HGp.out.size
          have hlp := hRp.lt
          clear hgp
          by_cases hq : v3 = 0
          · subst hq
            go_wp2_with fail
            refine (pick_any b _ 2 _ (hRp.kept (fun j hj => heap_alloc_old wp _ (by omega))) (by omega) (by omega)).mono ?_
            rintro e wq ⟨u, rfl, hu0, hu1, hRq, hgq⟩
            have hlit : wq.heap[wp.heap.size]? = some (.cells #[.int .i64 (-1), .int .i64 7] 3 (0, 0)) := (hgq.block wp.heap.size (by simp) (fun e => by injection e with e; omega)).trans (heap_alloc_new wp _)
            have hc0 : wq.cell? ⟨wp.heap.size, 0, none⟩ = some (.int .i64 (-1)) := by simp [World.cell?, hlit]
            have hc1 : wq.cell? ⟨wp.heap.size, 1, none⟩ = some (.int .i64 7) := by simp [World.cell?, hlit]
            have HSq := hide (IntSl.pick (World.ownsRow.alloc HSp.out (.cells #[.int .i64 (-1), .int .i64 7] 3)) (by omega) hgq)
            have HGq := hide ((HGp.out.trans (World.grownBy_alloc wp _ _)).trans hgq)
            have hu2 : u < 2 := by omega
            clear hgq hlit
            by_cases hu : u = 0
            · subst hu
              go_wp2_with fail
              refine bodyPost_ret (results_tmp2 rfl _ _ _) rfl ⟨-1, l, g, c, by rw [HLL.out]; rfl, by rw [HLL.out]; exact HSq.out, by rw [HLL.out]; omega, HLE.out, by omega, by omega, hRq.mono (by omega), HGq.out⟩
            · obtain rfl : u = 1 := by omega
              go_wp2_with fail
              refine bodyPost_ret (results_tmp2 rfl _ _ _) rfl ⟨7, l, g, c, by rw [HLL.out]; rfl, by rw [HLL.out]; exact HSq.out, by rw [HLL.out]; omega, HLE.out, by omega, by omega, hRq.mono (by omega), HGq.out⟩
          · have hqb : (v3 == 0) = false := by simpa using hq
            by_cases hq1 : v3 = 1
            · subst hq1
              have HLE2 : Hid (∀ x ∈ l ++ [(2 : Int) ^ gs.toNat], 0 ≤ x ∧ x ≤ 64) := hide (fun x hx => by
                rcases List.mem_append.1 hx with h | h
                · exact HLE.out x h
                · obtain rfl : x = (2 : Int) ^ gs.toNat := by simpa using h
                  omega)
              have hl7 : l.length ≤ 6 := by rw [HLL.out]; omega
              go_wp2_with (at_builtin; refine wpList_wanted (by rfl) (wp_push_intG _ _ (by rfl) w.heap.size (.slice (some ⟨g, 0, none⟩) 0 c) l (by rfl) (World.ownsRow.alloc HSp.out _) wp.heap.size ((2 : Int) ^ gs.toNat) (by rfl) (heap_alloc_new wp _) (by omega) (by simp; omega) ?_); intro g' cap w4 hown hgrow; have HOW := hide (And.intro hown (And.intro (rd_grown (hRp.kept (fun j hj => heap_alloc_old wp _ (by have := hRp.lt; omega))) hgrow (fun k hk => by have := (HLO.out k hk).1; omega)) (grown_row (HGp.out.trans (World.grownBy_alloc wp _ _)) hgrow (fun k hk => (HLO.out k hk).1)))); clear hown hgrow)
              refine bodyPost_ret (results_tmp2 rfl _ _ _) rfl ⟨gs, l ++ [(2 : Int) ^ gs.toNat], g', cap, by rw [List.length_append]; rfl, by rw [List.length_append]; exact HOW.out.1, by rw [List.length_append]; simp; omega, HLE2.out, by omega, by omega, HOW.out.2.1.mono (by omega), HOW.out.2.2⟩
            · have hqb1 : (v3 == 1) = false := by simpa using hq1
              have hmk : ∀ w, (Instr.makeSlice 23 (.int .i64 7) (.int .i64 7)).run Tryd.prog w = .ok (.slice (some ⟨w.heap.size, 0, none⟩) 7 7) (w.alloc (.cells (madeCells #[.int .i64 0] 7) 3)) := fun w => make_ints 7 (by omega) w
              have HZ7 := hide (zeros_tabG wp (lo := w.heap.size) 7 hzp (by omega))
              have HR7 : Hid (Rd (wp.alloc (.cells (madeCells #[.int .i64 0] 7) 3)) b _) := hide (hRp.kept (fun j hj => heap_alloc_old wp _ (by omega)))
              have HG7 := hide (HGp.out.trans (World.grownBy_alloc wp (.cells (madeCells #[.int .i64 0] 7) 3) _))
              have HE7 : Hid (∀ x ∈ tab 7 (fun _ => (0 : Int)), 0 ≤ x ∧ x ≤ 64) := hide (fun x hx => by
                obtain ⟨_, _, rfl⟩ := List.mem_map.1 hx
                omega)
              go_wp2_with fail
              go_region
              all_goals
                clear hmk
                go_wp2_with fail
                refine bodyPost_ret (results_tmp2 rfl _ _ _) rfl ⟨gs, tab 7 (fun _ => 0), wp.heap.size, 7, rfl, IntSl.drew HZ7.out, by rw [tab_len]; omega, HE7.out, by omega, by omega, (HR7.out.kept (fun _ _ => rfl)).mono (by omega), HG7.out.trans ⟨rfl, rfl, rfl, Nat.le_refl _, fun _ _ _ => rfl⟩⟩
      · have hLp : (0 : Int) < L := by omega
        obtain ⟨L', rfl⟩ : ∃ L', L = L' + 1 := ⟨L - 1, by omega⟩
        go_wp2_with fail
        refine (pick_any b _ 3 _ hRr (by omega) (by omega)).mono ?_
        rintro e w5 ⟨v2, rfl, hv20, hv21, hR5, hg5⟩
        have HS5 := hide (HS.out.pick (by omega) hg5)
        have HG5 := hide (HGR.out.trans hg5)
        have hz5 := HG5.out.size
        have hl5 := hR5.lt
        clear hg5 HS HGR
        by_cases hv : v2 = 0
        · subst hv
          go_wp2_with fail
          refine (odd_any b _ k _ hR5 (by omega) hk).mono ?_
          rintro e wo ⟨β, rfl, hRo, hgo⟩
          have HSo := hide (HS5.out.pick (by omega) hgo)
          have HGo := hide (HG5.out.trans hgo)
          have hzo := HGo.out.size
          have hlo := hRo.lt
          clear hgo
          cases β with
          | false =>
            go_wp2_with fail
            refine bodyPost_ret (results_tmp2 rfl _ _ _) rfl ⟨gs, l, g, c, by rw [HLL.out]; rfl, by rw [HLL.out]; exact HSo.out, by rw [HLL.out]; omega, HLE.out, by omega, by omega, hRo.mono (by omega), HGo.out⟩
          | true =>
            go_wp2_with fail
            refine (pick_any b _ 3 _ hRo (by omega) (by omega)).mono ?_
            rintro e wp ⟨v3, rfl, hv30, hv31, hRp, hgp⟩
            have HSp := hide (HSo.out.pick (by omega) hgp)
            have HGp := hide (HGo.out.trans hgp)
            have HLO := hide (World.ownsRow.lt HSp.out)
            have hzp := HGp.out.size
            have hlp := hRp.lt
            clear hgp
            by_cases hq : v3 = 0
            · subst hq
              go_wp2_with fail
              refine (pick_any b _ 2 _ (hRp.kept (fun j hj => heap_alloc_old wp _ (by omega))) (by omega) (by omega)).mono ?_
              rintro e wq ⟨u, rfl, hu0, hu1, hRq, hgq⟩
              have hlit : wq.heap[wp.heap.size]? = some (.cells #[.int .i64 (-1), .int .i64 7] 3 (0, 0)) := (hgq.block wp.heap.size (by simp) (fun e => by injection e with e; omega)).trans (heap_alloc_new wp _)
              have hc0 : wq.cell? ⟨wp.heap.size, 0, none⟩ = some (.int .i64 (-1)) := by simp [World.cell?, hlit]
              have hc1 : wq.cell? ⟨wp.heap.size, 1, none⟩ = some (.int .i64 7) := by simp [World.cell?, hlit]
              have HSq := hide (IntSl.pick (World.ownsRow.alloc HSp.out (.cells #[.int .i64 (-1), .int .i64 7] 3)) (by omega) hgq)
              have HGq := hide ((HGp.out.trans (World.grownBy_alloc wp _ _)).trans hgq)
              have hu2 : u < 2 := by omega
              clear hgq hlit
              by_cases hu : u = 0
              · subst hu
                go_wp2_with fail
                refine bodyPost_ret (results_tmp2 rfl _ _ _) rfl ⟨-1, l, g, c, by rw [HLL.out]; rfl, by rw [HLL.out]; exact HSq.out, by rw [HLL.out]; omega, HLE.out, by omega, by omega, hRq.mono (by omega), HGq.out⟩
              · obtain rfl : u = 1 := by omega
                go_wp2_with fail
                refine bodyPost_ret (results_tmp2 rfl _ _ _) rfl ⟨7, l, g, c, by rw [HLL.out]; rfl, by rw [HLL.out]; exact HSq.out, by rw [HLL.out]; omega, HLE.out, by omega, by omega, hRq.mono (by omega), HGq.out⟩
            · have hqb : (v3 == 0) = false := by simpa using hq
              by_cases hq1 : v3 = 1
              · subst hq1
                have HLE2 : Hid (∀ x ∈ l ++ [(2 : Int) ^ gs.toNat], 0 ≤ x ∧ x ≤ 64) := hide (fun x hx => by
                  rcases List.mem_append.1 hx with h | h
                  · exact HLE.out x h
                  · obtain rfl : x = (2 : Int) ^ gs.toNat := by simpa using h
                    omega)
                have hl7 : (l).length ≤ 6 := by rw [HLL.out]; omega
                go_wp2_with (at_builtin; refine wpList_wanted (by rfl) (wp_push_intG _ _ (by rfl) w.heap.size (.slice (some ⟨g, 0, none⟩) (L' + 1) c) (l) (by rfl) (World.ownsRow.alloc HSp.out _) wp.heap.size ((2 : Int) ^ gs.toNat) (by rfl) (heap_alloc_new wp _) (by omega) (by simp; omega) ?_); intro g' cap w4 hown hgrow; have HOW := hide (And.intro hown (And.intro (rd_grown (hRp.kept (fun j hj => heap_alloc_old wp _ (by have := hRp.lt; omega))) hgrow (fun k hk => by have := (HLO.out k hk).1; omega)) (grown_row (HGp.out.trans (World.grownBy_alloc wp _ _)) hgrow (fun k hk => (HLO.out k hk).1)))); clear hown hgrow)
                refine bodyPost_ret (results_tmp2 rfl _ _ _) rfl ⟨gs, l ++ [(2 : Int) ^ gs.toNat], g', cap, by rw [List.length_append]; rfl, by rw [List.length_append]; exact HOW.out.1, by rw [List.length_append]; simp; omega, HLE2.out, by omega, by omega, HOW.out.2.1.mono (by omega), HOW.out.2.2⟩
              · have hqb1 : (v3 == 1) = false := by simpa using hq1
                have hmk : ∀ w, (Instr.makeSlice 23 (.int .i64 7) (.int .i64 7)).run Tryd.prog w = .ok (.slice (some ⟨w.heap.size, 0, none⟩) 7 7) (w.alloc (.cells (madeCells #[.int .i64 0] 7) 3)) := fun w => make_ints 7 (by omega) w
                have HZ7 := hide (zeros_tabG wp (lo := w.heap.size) 7 hzp (by omega))
                have HR7 : Hid (Rd (wp.alloc (.cells (madeCells #[.int .i64 0] 7) 3)) b _) := hide (hRp.kept (fun j hj => heap_alloc_old wp _ (by omega)))
                have HG7 := hide (HGp.out.trans (World.grownBy_alloc wp (.cells (madeCells #[.int .i64 0] 7) 3) _))
                have HE7 : Hid (∀ x ∈ tab 7 (fun _ => (0 : Int)), 0 ≤ x ∧ x ≤ 64) := hide (fun x hx => by
                  obtain ⟨_, _, rfl⟩ := List.mem_map.1 hx
                  omega)
                go_wp2_with fail
                go_region
                all_goals
                  clear hmk
                  go_wp2_with fail
                  refine bodyPost_ret (results_tmp2 rfl _ _ _) rfl ⟨gs, tab 7 (fun _ => 0), wp.heap.size, 7, rfl, IntSl.drew HZ7.out, by rw [tab_len]; omega, HE7.out, by omega, by omega, (HR7.out.kept (fun _ _ => rfl)).mono (by omega), HG7.out.trans ⟨rfl, rfl, rfl, Nat.le_refl _, fun _ _ _ => rfl⟩⟩
        · have hvp : 0 < v2 := by omega
          have hpL := pow_range6 (L' + 1) (by omega)
          have hlast : L' < l.length := by rw [HLL.out]; omega
          obtain ⟨x, HXE⟩ : ∃ x, Hid (l[L']? = some x) := ⟨_, hide (List.getElem?_eq_getElem hlast)⟩
          have hxr := HLR.out x (List.mem_of_getElem? HXE.out)
          have HX : Hid (∀ x ∈ l, 0 ≤ x ∧ x < 64) := hide (fun y hy => by have := HLR.out y hy; omega)
          have hF := fedGo_lt (d := (2 : Int) ^ (L' + 1) - 1) (k := gs.toNat) l 0 0 HLR.out (by omega) (by omega)
          have HC : Hid (∀ N : Nat, Calls Tryd.prog 49 #[.slice (some ⟨g, 0, none⟩) (L' + 1) c, .int .i64 ((2 : Int) ^ (L' + 1) - 1)] (w5.drewN N) fun e w' => e = .returned (.int .i64 (fedGo ((2 : Int) ^ (L' + 1) - 1) 0 l 0)) ∧ w' = w5.drewN N) := hide (fun N => by
            have := l6Fed_any (some ⟨g, 0, none⟩) c l ((2 : Int) ^ (L' + 1) - 1) (w5.drewN N) (HS5.out.ints.below (below_drewN (Below.refl _ _) N)) (by omega) HX (by omega) (by omega)
            rw [HLL.out] at this
            exact this.mono fun _ _ h => ⟨h.1, h.2.symm⟩)
          generalize fedGo ((2 : Int) ^ (L' + 1) - 1) 0 l 0 = F at *
          have hw1 : IntKind.i64.wrap ((2 : Int) ^ gs.toNat) = (2 : Int) ^ gs.toNat := IntWalk.i64_in _ (by omega)
          have hw2 : IntKind.i64.wrap ((2 : Int) ^ gs.toNat - 1) = (2 : Int) ^ gs.toNat - 1 := IntWalk.i64_in _ (by omega)
          have hw3 : IntKind.i64.wrap ((2 : Int) ^ (L' + 1)) = (2 : Int) ^ (L' + 1) := IntWalk.i64_in _ (by omega)
          have hw4 : IntKind.i64.wrap ((2 : Int) ^ (L' + 1) - 1) = (2 : Int) ^ (L' + 1) - 1 := IntWalk.i64_in _ (by omega)
          obtain ⟨M, hM⟩ : ∃ M, M = (2 : Int) ^ gs.toNat - 1 - F := ⟨_, rfl⟩
          have hw5 : IntKind.i64.wrap ((2 : Int) ^ gs.toNat - 1 - F) = M := by rw [hM]; exact IntWalk.i64_in _ (by omega)
          have hM0 : 0 ≤ M := by omega
          have hM1 : M < 64 := by omega
          have hx0 : 0 ≤ x := hxr.1
          have hx1 : x < 64 := by omega
          have ho := orI_lt (a := x) (b := M) hx1 hM1
          have hcx := HS5.out.cellAt HXE.out
          have hfx := HS5.out.frozenAt L'
          have HLO5 := hide (World.ownsRow.lt HS5.out)
          have HALL : Hid (∀ N : Nat, IntSl ((w5.drewN N).setCell ⟨g, L', none⟩ (.int .i64 (orI x M))) w.heap.size (.slice (some ⟨g, 0, none⟩) (L' + 1) c) (l.set L' (orI x M)) ∧ Rd ((w5.drewN N).setCell ⟨g, L', none⟩ (.int .i64 (orI x M))) b (n + 2 + (L' + 1) + 1) ∧ w.grownBy ((w5.drewN N).setCell ⟨g, L', none⟩ (.int .i64 (orI x M))) (some b)) := hide (fun N => by
            have h2 : IntSl (w5.drewN N) w.heap.size (.slice (some ⟨g, 0, none⟩) (L' + 1) c) l := HS5.out.below (below_drewN (Below.refl _ _) N)
            have g1 := IntSl.grownSet h2 L' (orI x M)
            have hgb := (HLO5.out g rfl).1
            have g0 : w.grownBy (w5.drewN N) (some b) := HG5.out.trans ⟨rfl, rfl, rfl, Nat.le_refl _, fun _ _ _ => rfl⟩
            have r0 : Rd (w5.drewN N) b (n + 2 + (L' + 1) + 1) := (hR5.kept (fun _ _ => rfl)).mono (by omega)
            exact ⟨IntSl.store h2 L' (orI x M), rd_grown r0 g1 (fun k hk => by injection hk with hk; omega), grown_row g0 g1 (fun k hk => by injection hk with hk; omega)⟩)
          have HLE9 : Hid (∀ y ∈ l.set L' (orI x M), 0 ≤ y ∧ y ≤ 64) := hide (fun y hy => by
            rcases List.mem_or_eq_of_mem_set hy with h | h
            · exact HLE.out y h
            · omega)
          have HLN9 : Hid ((l.set L' (orI x M)).length = L' + 1) := hide (by rw [List.length_set]; exact HLL.out)
          have hL0 : (0 : Int) ≤ L' := by omega
          clear hM hxr hF
          go_wp2_with fail
          go_quiet ((go_at_call 49; exact Calls.quiet_of_same (HC.out _)))
          clear hw1 hw2 hw3 hw4 hw5
          go_wp2_with fail
          refine (l1Join_w _ _ _ hx0 hx1 hM0 hM1).mono ?_
          rintro e w6 ⟨rfl, rfl⟩
          go_wp2_with fail
          have HS9 := hide (HALL.out nq).1
          have hR9 := (HALL.out nq).2.1
          have HG9 := hide (HALL.out nq).2.2
          clear HALL
          generalize l.set L' (orI x M) = l9 at *
          refine (odd_any b _ k _ hR9 (by omega) hk).mono ?_
          rintro e wo ⟨β, rfl, hRo, hgo⟩
          have HSo := hide (HS9.out.pick (by omega) hgo)
          have HGo := hide (HG9.out.trans hgo)
          have hzo := HGo.out.size
          have hlo := hRo.lt
          clear hgo
          cases β with
          | false =>
            go_wp2_with fail
            refine bodyPost_ret (results_tmp2 rfl _ _ _) rfl ⟨gs, l9, g, c, by rw [HLN9.out]; rfl, by rw [HLN9.out]; exact HSo.out, by rw [HLN9.out]; omega, HLE9.out, by omega, by omega, hRo.mono (by omega), HGo.out⟩
          | true =>
            go_wp2_with fail
            refine (pick_any b _ 3 _ hRo (by omega) (by omega)).mono ?_
            rintro e wp ⟨v3, rfl, hv30, hv31, hRp, hgp⟩
            have HSp := hide (HSo.out.pick (by omega) hgp)
            have HGp := hide (HGo.out.trans hgp)
            have HLO := hide (World.ownsRow.lt HSp.out)
            have hzp := HGp.out.size
            have hlp := hRp.lt
            clear hgp
            by_cases hq : v3 = 0
            · subst hq
              go_wp2_with fail
              refine (pick_any b _ 2 _ (hRp.kept (fun j hj => heap_alloc_old wp _ (by omega))) (by omega) (by omega)).mono ?_
              rintro e wq ⟨u, rfl, hu0, hu1, hRq, hgq⟩
              have hlit : wq.heap[wp.heap.size]? = some (.cells #[.int .i64 (-1), .int .i64 7] 3 (0, 0)) := (hgq.block wp.heap.size (by simp) (fun e => by injection e with e; omega)).trans (heap_alloc_new wp _)
              have hc0 : wq.cell? ⟨wp.heap.size, 0, none⟩ = some (.int .i64 (-1)) := by simp [World.cell?, hlit]
              have hc1 : wq.cell? ⟨wp.heap.size, 1, none⟩ = some (.int .i64 7) := by simp [World.cell?, hlit]
              have HSq := hide (IntSl.pick (World.ownsRow.alloc HSp.out (.cells #[.int .i64 (-1), .int .i64 7] 3)) (by omega) hgq)
              have HGq := hide ((HGp.out.trans (World.grownBy_alloc wp _ _)).trans hgq)
              have hu2 : u < 2 := by omega
              clear hgq hlit
              by_cases hu : u = 0
              · subst hu
                go_wp2_with fail
                refine bodyPost_ret (results_tmp2 rfl _ _ _) rfl ⟨-1, l9, g, c, by rw [HLN9.out]; rfl, by rw [HLN9.out]; exact HSq.out, by rw [HLN9.out]; omega, HLE9.out, by omega, by omega, hRq.mono (by omega), HGq.out⟩
              · obtain rfl : u = 1 := by omega
                go_wp2_with fail
                refine bodyPost_ret (results_tmp2 rfl _ _ _) rfl ⟨7, l9, g, c, by rw [HLN9.out]; rfl, by rw [HLN9.out]; exact HSq.out, by rw [HLN9.out]; omega, HLE9.out, by omega, by omega, hRq.mono (by omega), HGq.out⟩
            · have hqb : (v3 == 0) = false := by simpa using hq
              by_cases hq1 : v3 = 1
              · subst hq1
                have HLE2 : Hid (∀ x ∈ l9 ++ [(2 : Int) ^ gs.toNat], 0 ≤ x ∧ x ≤ 64) := hide (fun x hx => by
                  rcases List.mem_append.1 hx with h | h
                  · exact HLE9.out x h
                  · obtain rfl : x = (2 : Int) ^ gs.toNat := by simpa using h
                    omega)
                have hl7 : l9.length ≤ 6 := by rw [HLN9.out]; omega
                go_wp2_with (at_builtin; refine wpList_wanted (by rfl) (wp_push_intG _ _ (by rfl) w.heap.size (.slice (some ⟨g, 0, none⟩) (L' + 1) c) l9 (by rfl) (World.ownsRow.alloc HSp.out _) wp.heap.size ((2 : Int) ^ gs.toNat) (by rfl) (heap_alloc_new wp _) (by omega) (by simp; omega) ?_); intro g' cap w4 hown hgrow; have HOW := hide (And.intro hown (And.intro (rd_grown (hRp.kept (fun j hj => heap_alloc_old wp _ (by have := hRp.lt; omega))) hgrow (fun k hk => by have := (HLO.out k hk).1; omega)) (grown_row (HGp.out.trans (World.grownBy_alloc wp _ _)) hgrow (fun k hk => (HLO.out k hk).1)))); clear hown hgrow)
                refine bodyPost_ret (results_tmp2 rfl _ _ _) rfl ⟨gs, l9 ++ [(2 : Int) ^ gs.toNat], g', cap, by rw [List.length_append]; rfl, by rw [List.length_append]; exact HOW.out.1, by rw [List.length_append]; simp; omega, HLE2.out, by omega, by omega, HOW.out.2.1.mono (by omega), HOW.out.2.2⟩
              · have hqb1 : (v3 == 1) = false := by simpa using hq1
                have hmk : ∀ w, (Instr.makeSlice 23 (.int .i64 7) (.int .i64 7)).run Tryd.prog w = .ok (.slice (some ⟨w.heap.size, 0, none⟩) 7 7) (w.alloc (.cells (madeCells #[.int .i64 0] 7) 3)) := fun w => make_ints 7 (by omega) w
                have HZ7 := hide (zeros_tabG wp (lo := w.heap.size) 7 hzp (by omega))
                have HR7 : Hid (Rd (wp.alloc (.cells (madeCells #[.int .i64 0] 7) 3)) b _) := hide (hRp.kept (fun j hj => heap_alloc_old wp _ (by omega)))
                have HG7 := hide (HGp.out.trans (World.grownBy_alloc wp (.cells (madeCells #[.int .i64 0] 7) 3) _))
                have HE7 : Hid (∀ x ∈ tab 7 (fun _ => (0 : Int)), 0 ≤ x ∧ x ≤ 64) := hide (fun x hx => by
                  obtain ⟨_, _, rfl⟩ := List.mem_map.1 hx
                  omega)
                go_wp2_with fail
                go_region
                all_goals
                  clear hmk
                  go_wp2_with fail
                  refine bodyPost_ret (results_tmp2 rfl _ _ _) rfl ⟨gs, tab 7 (fun _ => 0), wp.heap.size, 7, rfl, IntSl.drew HZ7.out, by rw [tab_len]; omega, HE7.out, by omega, by omega, (HR7.out.kept (fun _ _ => rfl)).mono (by omega), HG7.out.trans ⟨rfl, rfl, rfl, Nat.le_refl _, fun _ _ _ => rfl⟩⟩
end Go.Proofs.YthbainbgimbjeaaDoor
