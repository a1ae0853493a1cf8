/- Contract of the draw of a kitchen.
   Conditions: the bounds in each statement. -/
import Derived.Test.YthmpopdoihlfdaaDoorDrawTick
namespace Go.Proofs.YthmpopdoihlfdaaDoor
open Go.RowKit Go.ChangeShapes Go.WideShapes Go.ChangeAt Go.Deep

theorem TickSl.capR {w : World} {lo n c g : Nat} {l : List (List Order)} (h : TickSl w lo (.slice (some ⟨g, 0, none⟩) n c) l) : l.length = n ∧ n ≤ c ∧ lo ≤ g ∧ g < w.heap.size := by
  obtain ⟨vs, h1, _⟩ := h
  have hlt := h1.lt g rfl
  rcases h1.2 with ⟨hv, _⟩ | ⟨g', cap, cur, hv, _, _, h2, _⟩
  · cases hv
  · injection hv with e1 e2 e3
    subst e2 e3
    exact ⟨rfl, h2, hlt.1, hlt.2⟩
theorem TickSl.emptyG (w : World) {lo : Nat} (hlo : lo ≤ w.heap.size) : TickSl (w.alloc (.cells #[] 23)) lo (.slice (some ⟨w.heap.size, 0, none⟩) 0 0) [] :=
  ⟨[], World.ownsRow_lit w #[] 0 hlo (by unfold maxLen; omega) rfl, fun i x hx => by simp at hx, fun i j u u' k _ hu => by simp at hu⟩

/-- A drawn kitchen: at most five tickets of at most seven orders. -/
def DrewKit (w : World) (b n : Nat) (e : Ending) (w' : World) : Prop := ∃ (l : List (List Order)) (g c : Nat), e = .returned (.slice (some ⟨g, 0, none⟩) l.length c) ∧ TickSl w' w.heap.size (.slice (some ⟨g, 0, none⟩) l.length c) l ∧ l.length ≤ 5 ∧ (∀ x ∈ l, x.length ≤ 7) ∧ Rd w' b (n + 400) ∧ w.grownBy w' (some b)

set_option maxRecDepth 100000 in
set_option maxHeartbeats 4000000 in
theorem l20Kitchen_any (b n : Nat) (k : Int) (w : World) (hR : Rd w b n) (hn : n ≤ 70000) (hk : k ≤ 1000000) :
    Calls Tryd.prog 65 #[.pointer (some ⟨b, 0, none⟩), .int .i64 k] w (DrewKit w b n) := by
  have hblt := hR.lt
  have HO : Hid (TickSl (w.alloc (.cells #[] 23)) w.heap.size (.slice (some ⟨w.heap.size, 0, none⟩) 0 0) []) := hide (TickSl.emptyG w (Nat.le_refl _))
  have HRA : Hid (Rd (w.alloc (.cells #[] 23)) b n) := hide (hR.kept (fun j hj => heap_alloc_old w _ (by omega)))
  have HGA : Hid (w.grownBy (w.alloc (.cells #[] 23)) (some b)) := hide (World.grownBy_alloc w _ _)
  go_enter Tryd.func65, Tryd.ntmps65
  go_wp2_with fail
  refine (pick_any b n 5 _ HRA.out (by omega) (by omega)).mono ?_
  rintro e w1 ⟨q, rfl, hq0, hq1, hR1, hgw1⟩
  have HS1 : Hid (TickSl w1 w.heap.size (.slice (some ⟨w.heap.size, 0, none⟩) 0 0) []) := hide (HO.out.grown hgw1 hblt)
  have HG1 : Hid (w.grownBy w1 (some b)) := hide (HGA.out.trans hgw1)
  have HR1 := hide hR1
  have hq4 : q ≤ 4 := by omega
  clear hgw1 hR1 HO HRA HGA hR
  go_wp2_with fail
  go_loopw [5, 6] (fun v i wr => ∃ (j : Nat) (l : List (List Order)) (L g c : Nat), j ≤ 4 ∧ i = .int .i64 j ∧ L + j ≤ 4 ∧ v = .slice (some ⟨g, 0, none⟩) L c ∧ TickSl wr w.heap.size (.slice (some ⟨g, 0, none⟩) L c) l ∧ Hid (∀ x ∈ l, x.length ≤ 7) ∧ Rd wr b (n + 1 + 60 * L) ∧ w.grownBy wr (some b)) (fun _ i _ => (intOf i).toNat)
  case atStart => exact ⟨q.toNat, [], 0, w.heap.size, 0, by omega, by rw [Int.toNat_of_nonneg hq0], by omega, rfl, HS1.out, hide (fun x hx => by simp at hx), HR1.out, HG1.out⟩
  case round =>
    clear HS1 HG1 HR1
    obtain ⟨j, l, L, g, c, hj, rfl, hlj, rfl, hS, HX, hRr, hgr⟩ := hrel
    have HLL : Hid (l.length = L) := hide hS.capR.1
    have hlL : l.length ≤ L := Nat.le_of_eq HLL.out
    have HS := hide hS
    have HGR := hide hgr
    have hzr := hgr.size
    have hrb := hRr.lt
    clear hS hgr
    by_cases hj0 : 0 < j
    · have hjz : (0 : Int) < j := by omega
      go_wp2_with fail
      refine (l20Ticket_any b _ 0 _ hRr (by omega) (by omega)).mono ?_
      rintro e w3 ⟨t, A3, c3, rfl, hT3, ht7, hR3, hg3⟩
      have HT3 := hide (HS.out.to.grown hg3 hblt)
      have HG3 := hide (HGR.out.trans hg3)
      have hz3 := HG3.out.size
      have hz13 := hg3.size
      have HR3 := hide hR3
      have HU3 := hide hT3
      have HLO : Hid (w.heap.size ≤ g) := hide HS.out.capR.2.2.1
      have HX2 : Hid (∀ x ∈ l ++ [t], x.length ≤ 7) := hide (fun x hx => by
        rcases List.mem_append.1 hx with h | h
        · exact HX.out x h
        · obtain rfl : x = t := by simpa using h
          exact ht7)
      clear hg3 hR3 hT3
      go_wp2_with (at_builtin; refine wpList_wantedR (by rfl) (wp_push_tickTo _ _ (by rfl) w.heap.size wr.heap.size (.slice (some ⟨g, 0, none⟩) L c) l (by rfl) (HT3.out.below ((Below.refl _ w3).alloc (Nat.le_refl _) _)) hzr (by simp; omega) w3.heap.size (.slice A3 t.length c3) t (World.ownsRow.alloc HU3.out _) (by rfl) (heap_alloc_new w3 _) (by omega) ?_); intro g' cap w4 hown hgrow; have HOW := hide (And.intro hown (And.intro (rd_grownR (HR3.out.kept (fun j hj => heap_alloc_old w3 _ (by have := HR3.out.lt; omega))) hgrow (fun k hk => by have := HLO.out; have hk : some g = some k := hk; injection hk with hk; omega)) (grown_rowR (HG3.out.trans (World.grownBy_alloc w3 _ _)) hgrow (fun k hk => by have := HLO.out; have hk : some g = some k := hk; injection hk with hk; omega)))); clear hown hgrow)
      go_roundw
      case rel =>
        obtain ⟨j', rfl⟩ : ∃ j', j = j' + 1 := ⟨j - 1, by omega⟩
        exact ⟨j', l ++ [t], l.length + 1, g', cap, by omega, by go_num, by omega, by rfl, HOW.out.1, HX2, HOW.out.2.1.mono (by rw [HLL.out]; omega), HOW.out.2.2⟩
      case measure => simp [intOf]; omega
    · obtain rfl : j = 0 := by omega
      have hL4 : L ≤ 4 := by omega
      go_wp2_with fail
      refine (odd_any b _ k _ hRr (by omega) hk).mono ?_
      rintro e wo ⟨β, rfl, hRo, hgo⟩
      have HSo := hide (HS.out.grown hgo (by omega))
      have HGo := hide (HGR.out.trans hgo)
      have hzo := HGo.out.size
      have hlo := hRo.lt
      clear hgo
      cases β with
      | false =>
        go_wp2_with fail
        refine bodyPost_ret (results_tmp rfl _ _ _) rfl ⟨l, g, c, by rw [HLL.out]; rfl, by rw [HLL.out]; exact HSo.out, by rw [HLL.out]; omega, HX.out, hRo.mono (by omega), HGo.out⟩
      | true =>
        go_wp2_with fail
        refine (pick_any b _ 2 _ hRo (by omega) (by omega)).mono ?_
        rintro e wp ⟨v3, rfl, hv30, hv31, hRp, hgp⟩
        have HSp := hide (HSo.out.grown hgp (by omega))
        have HGp := hide (HGo.out.trans hgp)
        have hzp := HGp.out.size
        have hlp := hRp.lt
        clear hgp
        by_cases hq : v3 = 0
        · subst hq
          have hmk : ∀ w, (Instr.makeSlice 43 (.int .i64 5) (.int .i64 5)).run Tryd.prog w = .ok (.slice (some ⟨w.heap.size, 0, none⟩) 5 5) (w.alloc (.cells (madeCells #[.slice none 0 0] 5) 23)) := fun w => make_ticks 5 (by omega) w
          have HZ5 := hide (fillT_zero wp w.heap.size (List.replicate 5 []) hzp (by simp))
          have HR5 : Hid (Rd (wp.alloc (.cells (madeCells #[.slice none 0 0] 5) 23)) b _) := hide (hRp.kept (fun j hj => heap_alloc_old wp _ (by omega)))
          have HG5 := hide (HGp.out.trans (World.grownBy_alloc wp (.cells (madeCells #[.slice none 0 0] 5) 23) _))
          go_wp2_with fail
          refine bodyPost_ret (results_tmp rfl _ _ _) rfl ⟨fillT (List.replicate 5 []) 0, wp.heap.size, 5, rfl, HZ5.out, by rw [fillT_len]; simp, fun x hx => by simp [fillT] at hx; rw [hx]; simp, HR5.out.mono (by omega), HG5.out⟩
        · have hqb : (v3 == 0) = false := beq_false_of_ne hq
          go_wp2_with fail
          refine (l20Ticket_any b _ 1 _ hRp (by omega) (by omega)).mono ?_
          rintro e w3 ⟨t, A3, c3, rfl, hT3, ht7, hR3, hg3⟩
          have HT3 := hide (HSp.out.to.grown hg3 hblt)
          have HG3 := hide (HGp.out.trans hg3)
          have hz3 := HG3.out.size
          have hz13 := hg3.size
          have HR3 := hide hR3
          have HU3 := hide hT3
          have HLO : Hid (w.heap.size ≤ g) := hide HSp.out.capR.2.2.1
          have HX2 : Hid (∀ x ∈ l ++ [t], x.length ≤ 7) := hide (fun x hx => by
            rcases List.mem_append.1 hx with h | h
            · exact HX.out x h
            · obtain rfl : x = t := by simpa using h
              exact ht7)
          clear hg3 hR3 hT3
          go_wp2_with (at_builtin; refine wpList_wantedR (by rfl) (wp_push_tickTo _ _ (by rfl) w.heap.size wp.heap.size (.slice (some ⟨g, 0, none⟩) L c) l (by rfl) (HT3.out.below ((Below.refl _ w3).alloc (Nat.le_refl _) _)) hzp (by simp; omega) w3.heap.size (.slice A3 t.length c3) t (World.ownsRow.alloc HU3.out _) (by rfl) (heap_alloc_new w3 _) (by omega) ?_); intro g' cap w4 hown hgrow; have HOW := hide (And.intro hown (And.intro (rd_grownR (HR3.out.kept (fun j hj => heap_alloc_old w3 _ (by have := HR3.out.lt; omega))) hgrow (fun k hk => by have := HLO.out; have hk : some g = some k := hk; injection hk with hk; omega)) (grown_rowR (HG3.out.trans (World.grownBy_alloc w3 _ _)) hgrow (fun k hk => by have := HLO.out; have hk : some g = some k := hk; injection hk with hk; omega)))); clear hown hgrow)
          refine bodyPost_ret (results_tmp rfl _ _ _) rfl ⟨l ++ [t], g', cap, by rw [List.length_append]; rfl, by rw [List.length_append]; exact HOW.out.1, by rw [List.length_append]; simp; omega, HX2.out, HOW.out.2.1.mono (by omega), HOW.out.2.2⟩
end Go.Proofs.YthmpopdoihlfdaaDoor
