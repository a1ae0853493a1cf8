/- ShareOf of the program.
   Conditions: lists have at most 1048576 elements. -/
import Derived.Test.YteocmjffjinphaaDoorShareMath
import Derived.Test.YteocmjffjinphaaDoorPays2
import Derived.RegionTactic
import Derived.BigRegion
import Derived.Shelf.RegionOpenPlain
namespace Go.Proofs.YteocmjffjinphaaDoor
open Go.RowKit Go.ChangeShapes Go.WideShapes Go.ChangeAt Go.Deep

theorem zeros_tab' (w : World) {lo : Nat} (n : Nat) (hlo : lo ≤ w.heap.size) (hn : n ≤ 1048576) : IntSl (w.alloc (.cells (madeCells #[.int .i64 0] n) 3)) lo (.slice (some ⟨w.heap.size, 0, none⟩) n n) (tab n (fun _ => 0)) := by
  have h : OwnInts (w.alloc (.cells (madeCells #[.int .i64 0] n) 3)) w.heap.size (tab n (fun _ => 0)) := by
    unfold OwnInts
    rw [tab_len]
    exact (World.rowIs_made _ _ _ _).congr (fun i hi => by simp [tab, hi])
  have := h.sl hlo (by rw [tab_len]; exact hn)
  rw [tab_len] at this
  exact this
theorem tab_step {f : Int → Int} {xs : List Int} {j k : Nat} {x : Int} (hx : xs.getD k 0 = x) : (if j = k then f x else if j < k then f (xs.getD j 0) else 0) = if j < k + 1 then f (xs.getD j 0) else 0 := by
  by_cases e : j = k
  · subst e
    rw [if_pos rfl, if_pos (by omega), hx]
  · rw [if_neg e]
    by_cases e2 : j < k
    · rw [if_pos e2, if_pos (by omega)]
    · rw [if_neg e2, if_neg (by omega)]
theorem map_tab (f : Int → Int) (xs : List Int) : tab xs.length (fun j => f (xs.getD j 0)) = xs.map f := by
  apply List.ext_getElem?
  intro i
  by_cases hi : i < xs.length
  · rw [tab_at hi, List.getElem?_map, List.getElem?_eq_getElem hi]
    simp [hi]
  · rw [List.getElem?_eq_none (by rw [tab_len]; omega), List.getElem?_eq_none (by rw [List.length_map]; omega)]
theorem tab_done {f : Int → Int} {xs : List Int} : tab xs.length (fun j => if j < xs.length then f (xs.getD j 0) else 0) = xs.map f := by
  rw [← map_tab]
  exact tab_congr (fun j hj => if_pos hj)
theorem tab_none {f : Int → Int} {xs : List Int} : tab xs.length (fun _ => (0 : Int)) = tab xs.length (fun j => if j < 0 then f (xs.getD j 0) else 0) := tab_congr (fun j _ => by simp)
theorem IntSl.capOk {w : World} {lo g n cap : Nat} {xs : List Int} (h : IntSl w lo (.slice (some ⟨g, 0, none⟩) n cap) xs) : n ≤ cap := by
  obtain ⟨A, c, e, _, _⟩ := h.form
  injection e with e1 e2 e3
  subst e2
  rcases h.2 with ⟨hv, _⟩ | ⟨g', cap', cur, hv, _, _, hnc, _⟩
  · cases hv
  · injection hv with _ _ hc
    omega

set_option maxRecDepth 100000 in
set_option maxHeartbeats 4000000 in
theorem implShareOf_any (A : Addr) (c : Nat) (xs : List Int) (s : Int) (w : World) (hA : IntsAt w (some A) xs) (hl : xs.length ≤ 1048576) :
    Calls Tryd.prog 41 #[.slice (some A) xs.length c, .int .i64 s] w fun e w' => ∃ v, e = .returned v ∧ IntSl w' w.heap.size v (shareOfL xs s) ∧ Below w.heap.size w w' := by
  cases hI : sharesOk xs with
  | false =>
    have HI := hide hI
    have H3 : Hid (shareOfL xs s = []) := hide (by unfold shareOfL shareOkL; rw [hI]; rfl)
    clear hI
    go_enter Tryd.func41, Tryd.ntmps41
    go_wp2_with fail
    refine (implSharesValid_any _ _ _ _ hA hl).mono ?_
    rintro e w1 ⟨rfl, hB1⟩
    rw [HI.out]
    go_wp2_with fail
    refine bodyPost_ret (results_tmp rfl _ _ _) rfl ⟨.slice none 0 0, rfl, by rw [H3.out]; exact World.ownsRow_nil _ _ _ _, hB1⟩
  | true =>
    have HI := hide hI
    cases hQ : inR s 0 9999 with
    | false =>
      have HQ := hide hQ
      have H3 : Hid (shareOfL xs s = []) := hide (by unfold shareOfL shareOkL; rw [hQ]; simp)
      clear hI hQ
      go_enter Tryd.func41, Tryd.ntmps41
      go_wp2_with fail
      refine (implSharesValid_any _ _ _ _ hA hl).mono ?_
      rintro e w1 ⟨rfl, hB1⟩
      rw [HI.out]
      go_wp2_with fail
      refine (inRange_is _ _ _ _ HQ _).mono ?_
      rintro e w1 ⟨rfl, rfl⟩
      go_wp2_with fail
      refine bodyPost_ret (results_tmp rfl _ _ _) rfl ⟨.slice none 0 0, rfl, by rw [H3.out]; exact World.ownsRow_nil _ _ _ _, hB1⟩
    | true =>
      have HQ := hide hQ
      have HSH := hide (ShOk.of (xs := xs) (s := s) (by unfold shareOkL; rw [hI, hQ]; rfl))
      have H3 : Hid (shareOfL xs s = bumpAll (partsL xs s) ((gfL (remsL xs s)).take (leftL xs s).toNat)) := hide (by unfold shareOfL shareOkL; rw [hI, hQ]; rfl)
      have HSUM := hide HSH.out.sum
      have hmk := make_ints xs.length hl
      clear hI hQ
      go_enter Tryd.func41, Tryd.ntmps41
      go_wp2_with fail
      refine (implSharesValid_any _ _ _ _ hA hl).mono ?_
      rintro e w0 ⟨rfl, hB1⟩
      rw [HI.out]
      go_wp2_with fail
      refine (inRange_is _ _ _ _ HQ _).mono ?_
      rintro e w1 ⟨rfl, rfl⟩
      have hsz1 := hB1.size
      go_wp2_with fail
      have hZ0 : IntSl (((w0.alloc (.cells (madeCells #[.int .i64 0] xs.length) 3)).alloc (.cells (madeCells #[.int .i64 0] xs.length) 3)).drew) w.heap.size (.slice (some ⟨w0.heap.size, 0, none⟩) xs.length xs.length) (tab xs.length (fun _ => 0)) := IntSl.drew (World.ownsRow.alloc (zeros_tab' w0 (lo := w.heap.size) xs.length hsz1 hl) _)
      have hZ1 : IntSl (((w0.alloc (.cells (madeCells #[.int .i64 0] xs.length) 3)).alloc (.cells (madeCells #[.int .i64 0] xs.length) 3)).drew) w.heap.size (.slice (some ⟨w0.heap.size + 1, 0, none⟩) xs.length xs.length) (tab xs.length (fun _ => 0)) := by
        have := IntSl.drew (zeros_tab' (w0.alloc (.cells (madeCells #[.int .i64 0] xs.length) 3)) (lo := w.heap.size) xs.length (by simp; omega) hl)
        simpa using this
      have hBW : Below w.heap.size w (((w0.alloc (.cells (madeCells #[.int .i64 0] xs.length) 3)).alloc (.cells (madeCells #[.int .i64 0] xs.length) 3)).drew) := by go_grown
      have HA3 := hide (hA.below hBW)
      have HZ0 := hide hZ0
      have HZ1 := hide hZ1
      have HBW := hide hBW
      obtain ⟨T, hT⟩ : ∃ T, sumL xs = T := ⟨_, rfl⟩
      have HT := hide hT
      rw [hT] at HSUM
      have hT1 : 1 ≤ T := by rw [← hT]; exact HSH.out.t1
      have hT2 : T ≤ 140 := by rw [← hT]; exact HSH.out.t140
      have hs0 := HSH.out.s0
      have hs1 := HSH.out.s1
      have hn7 := HSH.out.n7
      clear hZ0 hZ1 hBW hB1 hT
      go_wp2_with fail
      go_region
      all_goals clear hmk
      · generalize ((w0.alloc (.cells (madeCells #[.int .i64 0] xs.length) 3)).alloc (.cells (madeCells #[.int .i64 0] xs.length) 3)).drew = W at HZ0 HZ1 HBW HA3 ⊢
        generalize w0.heap.size = PB at *
        obtain ⟨RB, hRB⟩ : ∃ RB, PB + 1 = RB := ⟨_, rfl⟩
        rw [hRB] at HZ1
        have HZP := HZ0
        have HZR := HZ1
        have hPn : ¬ PB = RB := by omega
        have hP0 : w.heap.size ≤ PB := hsz1
        have hR0 : w.heap.size ≤ RB := by omega
        simp only [hRB]
        clear hRB hsz1 HZ0 HZ1
        go_wp2_with fail
        refine (sumOf_any _ _ _ _ HA3.out hl).mono ?_
        rintro e w4 ⟨rfl, rfl⟩
        rw [HSUM.out]
        go_wp2_with fail
        go_loopw [31] (fun i wr => ∃ k : Nat, k ≤ xs.length ∧ i = .int .i64 k ∧ IntSl wr w.heap.size (.slice (some ⟨PB, 0, none⟩) xs.length xs.length) (tab xs.length (fun j => if j < k then partI s T (xs.getD j 0) else 0)) ∧ IntSl wr w.heap.size (.slice (some ⟨RB, 0, none⟩) xs.length xs.length) (tab xs.length (fun j => if j < k then remI s T (xs.getD j 0) else 0)) ∧ Below w.heap.size w wr) (fun i _ => xs.length - (intOf i).toNat)
        case atStart => exact ⟨0, Nat.zero_le _, rfl, by rw [← tab_none]; exact HZP.out, by rw [← tab_none]; exact HZR.out, HBW.out⟩
        case round =>
          clear HZP HZR HBW HA3
          obtain ⟨k, hk, rfl, hP, hR, hb⟩ := hrel
          have hsz := hb.size
          by_cases hlt : k < xs.length
          · obtain ⟨b1, off1, e1, hbl1, hc1⟩ := (hA.below hb) k xs[k] (List.getElem?_eq_getElem hlt)
            injection e1 with e1
            subst e1
            have hx := HSH.out.rng _ (List.getElem_mem hlt)
            have HX : Hid (xs.getD k 0 = xs[k]) := hide (by simp [hlt])
            have hmr := smul_range hs0 hs1 hx.1 hx.2
            have hpr := part_rem (s := s) (t := T) (x := xs[k]) hmr.1 hT1
            generalize xs[k] = x at *
            obtain ⟨hm0, hm1⟩ := hmr
            obtain ⟨-, hr0, hr1, hp0, hp1⟩ := hpr
            have hcp := hP.cellAt (tab_at (f := fun j => if j < k then partI s T (xs.getD j 0) else 0) hlt)
            have hcr := hR.cellAt (tab_at (f := fun j => if j < k then remI s T (xs.getD j 0) else 0) hlt)
            generalize (if k < k then partI s T (xs.getD k 0) else 0) = old1 at hcp
            generalize (if k < k then remI s T (xs.getD k 0) else 0) = old2 at hcr
            have hfp := hP.frozenAt k
            have hfr := hR.frozenAt k
            have HP1 := hide hP
            have HR1 := hide hR
            have hw1 : IntKind.i64.wrap (s * x) = s * x := IntWalk.i64_in _ (by omega)
            have hw2 : IntKind.i64.wrap ((s * x).tdiv T) = (s * x).tdiv T := IntWalk.i64_in _ (by unfold partI at hp0 hp1; omega)
            have hw3 : IntKind.i64.wrap ((s * x).tmod T) = (s * x).tmod T := IntWalk.i64_in _ (by unfold remI at hr0 hr1; omega)
            have hT0 : ¬ T = 0 := by omega
            have hT9 : (T == 0) = false := by simpa using hT0
            have hz : (0 : Int) ≤ k := by omega
            have hz2 : (k : Int) < xs.length := by omega
            have mixed : Tryd.prog.follows .mixedOrders = true := by kernel_rfl
            clear hr0 hr1 hp0 hp1 hx hP hR
            go_wp2_with fail
            go_big_region_o
            all_goals go_wp2
            have hre : remI s T x = s * x % T := Int.tmod_eq_emod_of_nonneg hm0
            have g1 := IntSl.grownSet HP1.out k (partI s T x)
            have p1 := IntSl.store HP1.out k (partI s T x)
            have r1 := IntSl.row HR1.out g1 (.inr (fun e => by have e : some RB = some PB := e; injection e with e; omega))
            have g2 := IntSl.grownSet r1 k (remI s T x)
            have r2 := IntSl.store r1 k (remI s T x)
            have p2 := IntSl.row p1 g2 (.inr (fun e => by have e : some PB = some RB := e; injection e with e; omega))
            have hb2 := (hb.grown g1 hsz (fun k hk => by injection hk with hk; omega)).grown g2 (by simp; omega) (fun k hk => by injection hk with hk; omega)
            rw [tab_set, tab_congr (g := fun j => if j < k + 1 then partI s T (xs.getD j 0) else 0) (fun j hj => tab_step (f := partI s T) HX.out)] at p2
            rw [tab_set, tab_congr (g := fun j => if j < k + 1 then remI s T (xs.getD j 0) else 0) (fun j hj => tab_step (f := remI s T) HX.out)] at r2
            rw [hre] at p2 r2 hb2
            exact ⟨⟨k + 1, hlt, by go_num, IntSl.drew p2, IntSl.drew r2, hb2.drew⟩, by simp [intOf]; omega⟩
          · obtain rfl : k = xs.length := by omega
            rw [tab_done] at hP hR
            have hP1 : IntSl wr w.heap.size (.slice (some ⟨PB, 0, none⟩) xs.length xs.length) (partsL xs s) := by unfold partsL; rw [HT.out]; exact hP
            have hR1 : IntSl wr w.heap.size (.slice (some ⟨RB, 0, none⟩) xs.length xs.length) (remsL xs s) := by unfold remsL; rw [HT.out]; exact hR
            have hSm := sumOf_any (some ⟨PB, 0, none⟩) xs.length (partsL xs s) wr hP1.ints (by rw [partsL_len]; exact hl)
            rw [partsL_len, HSH.out.parts_sum] at hSm
            have hlf := HSH.out.left
            have hle : leftL xs s = s - sumL (partsL xs s) := rfl
            have HPR := hide HSH.out.part_range
            have hRl := (World.ownsRow.lt hR1 _ rfl).2
            have hgf := greatestFirst_any (some ⟨RB, 0, none⟩) xs.length (remsL xs s) wr hR1.ints (by rw [remsL_len]; omega) (hide (fun x hx => by have := HSH.out.rem_range x hx; omega)) (fun a ha => by injection ha with ha; subst ha; exact hRl)
            rw [remsL_len] at hgf
            obtain ⟨L, hL⟩ : ∃ L : Nat, leftL xs s = L := ⟨(leftL xs s).toNat, by omega⟩
            rw [hL] at hlf hle H3
            have HPLN : Hid ((partsL xs s).length = xs.length) := hide (partsL_len xs s)
            have HGL : Hid ((gfL (remsL xs s)).length = xs.length) := hide (by rw [gfL_len, remsL_len])
            have HGM : Hid (∀ x ∈ gfL (remsL xs s), 0 ≤ x ∧ x < xs.length) := hide (fun x hx => by have := gfL_mem.1 hx; rw [remsL_len] at this; exact this)
            obtain ⟨Sg, hSg⟩ : ∃ Sg, sumL (partsL xs s) = Sg := ⟨_, rfl⟩
            rw [hSg] at hSm hlf hle
            have hw1 : IntKind.i64.wrap (s - Sg) = L := by rw [← hle]; exact IntWalk.i64_in _ (by omega)
            obtain ⟨hlf0, hlf1, hlf2, hlf3⟩ := hlf
            have HSm := hide hSm
            have HGF := hide hgf
            have HP1 := hide hP1
            simp only [Int.toNat_natCast] at H3
            clear hP hR hR1 hP1 hSm hgf hle hSg
            go_wp2_with fail
            refine HSm.out.mono ?_
            rintro e w5 ⟨rfl, rfl⟩
            go_wp2_with fail
            refine HGF.out.mono ?_
            rintro e w5 ⟨B, d, rfl, hG, hB5⟩
            obtain ⟨GB, cap5, e5, hg50, hg51⟩ := hG.own (by rw [HGL.out]; omega)
            injection e5 with e51 e52 e53
            injection e51 with e51
            subst e51 e53
            clear e52
            have hdc := hG.capOk
            have hP5 := HP1.out.below hB5
            have hb5 := next hb hB5
            have hPB : PB < wr.heap.size := (World.ownsRow.lt HP1.out _ rfl).2
            have HG5 := hide hG
            have HP5 := hide hP5
            have hL0 : (0 : Int) ≤ L := by omega
            have hL1 : (L : Int) ≤ d := by omega
            clear hG hP5 hB5 HP1 HSm HGF
            go_wp2_with fail
            go_loopw [62] (fun i wq => ∃ (j : Nat) (ps : List Int), j ≤ L ∧ i = .int .i64 j ∧ Hid (shareOfL xs s = bumpAll ps (((gfL (remsL xs s)).take L).drop j) ∧ ps.length = xs.length ∧ ∀ p ∈ ps, 0 ≤ p ∧ p ≤ 199980 + (j : Int)) ∧ IntSl wq w.heap.size (.slice (some ⟨PB, 0, none⟩) xs.length xs.length) ps ∧ IntSl wq wr.heap.size (.slice (some ⟨GB, 0, none⟩) xs.length d) (gfL (remsL xs s)) ∧ Below w.heap.size w wq) (fun i _ => L - (intOf i).toNat)
            case atStart => exact ⟨0, partsL xs s, Nat.zero_le _, rfl, hide ⟨by rw [H3.out]; rfl, HPLN.out, fun p hp => by have := HPR.out p hp; omega⟩, HP5.out, HG5.out, hb5⟩
            case round =>
              clear HP5 HG5 hb5 hb
              obtain ⟨j, ps, hj, rfl, HQ2, hP, hG, hb⟩ := hrel
              have hsz := hb.size
              by_cases hjt : j < L
              · have hjg : j < (gfL (remsL xs s)).length := by rw [HGL.out]; omega
                have hq := HGM.out _ (List.getElem_mem hjg)
                have hcg := hG.cellAt (List.getElem?_eq_getElem hjg)
                have HD : Hid (((gfL (remsL xs s)).take L).drop j = (gfL (remsL xs s))[j] :: ((gfL (remsL xs s)).take L).drop (j + 1)) := hide (by
                  have hjt2 : j < ((gfL (remsL xs s)).take L).length := by rw [List.length_take, HGL.out]; omega
                  rw [List.drop_eq_getElem_cons hjt2]
                  simp)
                generalize (gfL (remsL xs s))[j] = x at *
                obtain ⟨q, rfl⟩ : ∃ q : Nat, x = q := ⟨x.toNat, by omega⟩
                have hqn : q < ps.length := by rw [HQ2.out.2.1]; omega
                have hcp := hP.cellAt (List.getElem?_eq_getElem hqn)
                have hfp := hP.frozenAt q
                have hv := HQ2.out.2.2 _ (List.getElem_mem hqn)
                have HB : Hid (bump ps q = ps.set q (ps[q] + 1)) := hide (by simp [bump, hqn])
                generalize ps[q] = v at *
                have HQ3 : Hid (shareOfL xs s = bumpAll (ps.set q (v + 1)) (((gfL (remsL xs s)).take L).drop (j + 1)) ∧ (ps.set q (v + 1)).length = xs.length ∧ ∀ p ∈ ps.set q (v + 1), 0 ≤ p ∧ p ≤ 199980 + ((j + 1 : Nat) : Int)) := hide ⟨by
                  rw [HQ2.out.1, HD.out, ← HB.out]
                  rfl, by rw [List.length_set]; exact HQ2.out.2.1, fun p hp => by
                  rcases List.mem_or_eq_of_mem_set hp with hp | rfl
                  · have := HQ2.out.2.2 p hp
                    omega
                  · omega⟩
                have g1 := IntSl.grownSet hP q (v + 1)
                have p1 := IntSl.store hP q (v + 1)
                have G1 := IntSl.row hG g1 (.inr (fun e => by have e : some GB = some PB := e; injection e with e; omega))
                have hb2 := hb.grown g1 hsz (fun k hk => by injection hk with hk; omega)
                have hw2 : IntKind.i64.wrap (v + 1) = v + 1 := IntWalk.i64_in _ (by omega)
                have HP6 := hide p1
                have HG6 := hide G1
                have HB6 := hide hb2
                have hz1 : (0 : Int) ≤ j := by omega
                have hz2 : (j : Int) < L := by omega
                have hz3 : (0 : Int) ≤ q := by omega
                have hz4 : (q : Int) < xs.length := by omega
                clear hq hv g1 p1 G1 hb2 hP hG
                go_wp2_with fail
                go_roundw
                case rel => exact ⟨j + 1, ps.set q (v + 1), hjt, by go_num, HQ3, HP6.out, HG6.out, HB6.out⟩
                case measure => simp [intOf]; omega
              · have H4 : Hid (shareOfL xs s = ps) := hide (by
                  have := HQ2.out.1
                  rw [List.drop_of_length_le (by rw [List.length_take]; omega)] at this
                  exact this)
                go_wp2_with fail
                refine bodyPost_ret (results_tmp rfl _ _ _) rfl ⟨_, rfl, by rw [H4.out]; exact hP, hb⟩
      · generalize ((w0.alloc (.cells (madeCells #[.int .i64 0] xs.length) 3)).alloc (.cells (madeCells #[.int .i64 0] xs.length) 3)).drew = W at HZ0 HZ1 HBW HA3 ⊢
        generalize w0.heap.size = RB at *
        obtain ⟨PB, hRB⟩ : ∃ PB, RB + 1 = PB := ⟨_, rfl⟩
        rw [hRB] at HZ1
        have HZP := HZ1
        have HZR := HZ0
        have hPn : ¬ PB = RB := by omega
        have hP0 : w.heap.size ≤ PB := by omega
        have hR0 : w.heap.size ≤ RB := hsz1
        simp only [hRB]
        clear hRB hsz1 HZ0 HZ1
        go_wp2_with fail
        refine (sumOf_any _ _ _ _ HA3.out hl).mono ?_
        rintro e w4 ⟨rfl, rfl⟩
        rw [HSUM.out]
        go_wp2_with fail
        go_loopw [31] (fun i wr => ∃ k : Nat, k ≤ xs.length ∧ i = .int .i64 k ∧ IntSl wr w.heap.size (.slice (some ⟨PB, 0, none⟩) xs.length xs.length) (tab xs.length (fun j => if j < k then partI s T (xs.getD j 0) else 0)) ∧ IntSl wr w.heap.size (.slice (some ⟨RB, 0, none⟩) xs.length xs.length) (tab xs.length (fun j => if j < k then remI s T (xs.getD j 0) else 0)) ∧ Below w.heap.size w wr) (fun i _ => xs.length - (intOf i).toNat)
        case atStart => exact ⟨0, Nat.zero_le _, rfl, by rw [← tab_none]; exact HZP.out, by rw [← tab_none]; exact HZR.out, HBW.out⟩
        case round =>
          clear HZP HZR HBW HA3
          obtain ⟨k, hk, rfl, hP, hR, hb⟩ := hrel
          have hsz := hb.size
          by_cases hlt : k < xs.length
          · obtain ⟨b1, off1, e1, hbl1, hc1⟩ := (hA.below hb) k xs[k] (List.getElem?_eq_getElem hlt)
            injection e1 with e1
            subst e1
            have hx := HSH.out.rng _ (List.getElem_mem hlt)
            have HX : Hid (xs.getD k 0 = xs[k]) := hide (by simp [hlt])
            have hmr := smul_range hs0 hs1 hx.1 hx.2
            have hpr := part_rem (s := s) (t := T) (x := xs[k]) hmr.1 hT1
            generalize xs[k] = x at *
            obtain ⟨hm0, hm1⟩ := hmr
            obtain ⟨-, hr0, hr1, hp0, hp1⟩ := hpr
            have hcp := hP.cellAt (tab_at (f := fun j => if j < k then partI s T (xs.getD j 0) else 0) hlt)
            have hcr := hR.cellAt (tab_at (f := fun j => if j < k then remI s T (xs.getD j 0) else 0) hlt)
            generalize (if k < k then partI s T (xs.getD k 0) else 0) = old1 at hcp
            generalize (if k < k then remI s T (xs.getD k 0) else 0) = old2 at hcr
            have hfp := hP.frozenAt k
            have hfr := hR.frozenAt k
            have HP1 := hide hP
            have HR1 := hide hR
            have hw1 : IntKind.i64.wrap (s * x) = s * x := IntWalk.i64_in _ (by omega)
            have hw2 : IntKind.i64.wrap ((s * x).tdiv T) = (s * x).tdiv T := IntWalk.i64_in _ (by unfold partI at hp0 hp1; omega)
            have hw3 : IntKind.i64.wrap ((s * x).tmod T) = (s * x).tmod T := IntWalk.i64_in _ (by unfold remI at hr0 hr1; omega)
            have hT0 : ¬ T = 0 := by omega
            have hT9 : (T == 0) = false := by simpa using hT0
            have hz : (0 : Int) ≤ k := by omega
            have hz2 : (k : Int) < xs.length := by omega
            have mixed : Tryd.prog.follows .mixedOrders = true := by kernel_rfl
            clear hr0 hr1 hp0 hp1 hx hP hR
            go_wp2_with fail
            go_big_region_o
            all_goals go_wp2
            have hre : remI s T x = s * x % T := Int.tmod_eq_emod_of_nonneg hm0
            have g1 := IntSl.grownSet HP1.out k (partI s T x)
            have p1 := IntSl.store HP1.out k (partI s T x)
            have r1 := IntSl.row HR1.out g1 (.inr (fun e => by have e : some RB = some PB := e; injection e with e; omega))
            have g2 := IntSl.grownSet r1 k (remI s T x)
            have r2 := IntSl.store r1 k (remI s T x)
            have p2 := IntSl.row p1 g2 (.inr (fun e => by have e : some PB = some RB := e; injection e with e; omega))
            have hb2 := (hb.grown g1 hsz (fun k hk => by injection hk with hk; omega)).grown g2 (by simp; omega) (fun k hk => by injection hk with hk; omega)
            rw [tab_set, tab_congr (g := fun j => if j < k + 1 then partI s T (xs.getD j 0) else 0) (fun j hj => tab_step (f := partI s T) HX.out)] at p2
            rw [tab_set, tab_congr (g := fun j => if j < k + 1 then remI s T (xs.getD j 0) else 0) (fun j hj => tab_step (f := remI s T) HX.out)] at r2
            rw [hre] at p2 r2 hb2
            exact ⟨⟨k + 1, hlt, by go_num, IntSl.drew p2, IntSl.drew r2, hb2.drew⟩, by simp [intOf]; omega⟩
          · obtain rfl : k = xs.length := by omega
            rw [tab_done] at hP hR
            have hP1 : IntSl wr w.heap.size (.slice (some ⟨PB, 0, none⟩) xs.length xs.length) (partsL xs s) := by unfold partsL; rw [HT.out]; exact hP
            have hR1 : IntSl wr w.heap.size (.slice (some ⟨RB, 0, none⟩) xs.length xs.length) (remsL xs s) := by unfold remsL; rw [HT.out]; exact hR
            have hSm := sumOf_any (some ⟨PB, 0, none⟩) xs.length (partsL xs s) wr hP1.ints (by rw [partsL_len]; exact hl)
            rw [partsL_len, HSH.out.parts_sum] at hSm
            have hlf := HSH.out.left
            have hle : leftL xs s = s - sumL (partsL xs s) := rfl
            have HPR := hide HSH.out.part_range
            have hRl := (World.ownsRow.lt hR1 _ rfl).2
            have hgf := greatestFirst_any (some ⟨RB, 0, none⟩) xs.length (remsL xs s) wr hR1.ints (by rw [remsL_len]; omega) (hide (fun x hx => by have := HSH.out.rem_range x hx; omega)) (fun a ha => by injection ha with ha; subst ha; exact hRl)
            rw [remsL_len] at hgf
            obtain ⟨L, hL⟩ : ∃ L : Nat, leftL xs s = L := ⟨(leftL xs s).toNat, by omega⟩
            rw [hL] at hlf hle H3
            have HPLN : Hid ((partsL xs s).length = xs.length) := hide (partsL_len xs s)
            have HGL : Hid ((gfL (remsL xs s)).length = xs.length) := hide (by rw [gfL_len, remsL_len])
            have HGM : Hid (∀ x ∈ gfL (remsL xs s), 0 ≤ x ∧ x < xs.length) := hide (fun x hx => by have := gfL_mem.1 hx; rw [remsL_len] at this; exact this)
            obtain ⟨Sg, hSg⟩ : ∃ Sg, sumL (partsL xs s) = Sg := ⟨_, rfl⟩
            rw [hSg] at hSm hlf hle
            have hw1 : IntKind.i64.wrap (s - Sg) = L := by rw [← hle]; exact IntWalk.i64_in _ (by omega)
            obtain ⟨hlf0, hlf1, hlf2, hlf3⟩ := hlf
            have HSm := hide hSm
            have HGF := hide hgf
            have HP1 := hide hP1
            simp only [Int.toNat_natCast] at H3
            clear hP hR hR1 hP1 hSm hgf hle hSg
            go_wp2_with fail
            refine HSm.out.mono ?_
            rintro e w5 ⟨rfl, rfl⟩
            go_wp2_with fail
            refine HGF.out.mono ?_
            rintro e w5 ⟨B, d, rfl, hG, hB5⟩
            obtain ⟨GB, cap5, e5, hg50, hg51⟩ := hG.own (by rw [HGL.out]; omega)
            injection e5 with e51 e52 e53
            injection e51 with e51
            subst e51 e53
            clear e52
            have hdc := hG.capOk
            have hP5 := HP1.out.below hB5
            have hb5 := next hb hB5
            have hPB : PB < wr.heap.size := (World.ownsRow.lt HP1.out _ rfl).2
            have HG5 := hide hG
            have HP5 := hide hP5
            have hL0 : (0 : Int) ≤ L := by omega
            have hL1 : (L : Int) ≤ d := by omega
            clear hG hP5 hB5 HP1 HSm HGF
            go_wp2_with fail
            go_loopw [62] (fun i wq => ∃ (j : Nat) (ps : List Int), j ≤ L ∧ i = .int .i64 j ∧ Hid (shareOfL xs s = bumpAll ps (((gfL (remsL xs s)).take L).drop j) ∧ ps.length = xs.length ∧ ∀ p ∈ ps, 0 ≤ p ∧ p ≤ 199980 + (j : Int)) ∧ IntSl wq w.heap.size (.slice (some ⟨PB, 0, none⟩) xs.length xs.length) ps ∧ IntSl wq wr.heap.size (.slice (some ⟨GB, 0, none⟩) xs.length d) (gfL (remsL xs s)) ∧ Below w.heap.size w wq) (fun i _ => L - (intOf i).toNat)
            case atStart => exact ⟨0, partsL xs s, Nat.zero_le _, rfl, hide ⟨by rw [H3.out]; rfl, HPLN.out, fun p hp => by have := HPR.out p hp; omega⟩, HP5.out, HG5.out, hb5⟩
            case round =>
              clear HP5 HG5 hb5 hb
              obtain ⟨j, ps, hj, rfl, HQ2, hP, hG, hb⟩ := hrel
              have hsz := hb.size
              by_cases hjt : j < L
              · have hjg : j < (gfL (remsL xs s)).length := by rw [HGL.out]; omega
                have hq := HGM.out _ (List.getElem_mem hjg)
                have hcg := hG.cellAt (List.getElem?_eq_getElem hjg)
                have HD : Hid (((gfL (remsL xs s)).take L).drop j = (gfL (remsL xs s))[j] :: ((gfL (remsL xs s)).take L).drop (j + 1)) := hide (by
                  have hjt2 : j < ((gfL (remsL xs s)).take L).length := by rw [List.length_take, HGL.out]; omega
                  rw [List.drop_eq_getElem_cons hjt2]
                  simp)
                generalize (gfL (remsL xs s))[j] = x at *
                obtain ⟨q, rfl⟩ : ∃ q : Nat, x = q := ⟨x.toNat, by omega⟩
                have hqn : q < ps.length := by rw [HQ2.out.2.1]; omega
                have hcp := hP.cellAt (List.getElem?_eq_getElem hqn)
                have hfp := hP.frozenAt q
                have hv := HQ2.out.2.2 _ (List.getElem_mem hqn)
                have HB : Hid (bump ps q = ps.set q (ps[q] + 1)) := hide (by simp [bump, hqn])
                generalize ps[q] = v at *
                have HQ3 : Hid (shareOfL xs s = bumpAll (ps.set q (v + 1)) (((gfL (remsL xs s)).take L).drop (j + 1)) ∧ (ps.set q (v + 1)).length = xs.length ∧ ∀ p ∈ ps.set q (v + 1), 0 ≤ p ∧ p ≤ 199980 + ((j + 1 : Nat) : Int)) := hide ⟨by
                  rw [HQ2.out.1, HD.out, ← HB.out]
                  rfl, by rw [List.length_set]; exact HQ2.out.2.1, fun p hp => by
                  rcases List.mem_or_eq_of_mem_set hp with hp | rfl
                  · have := HQ2.out.2.2 p hp
                    omega
                  · omega⟩
                have g1 := IntSl.grownSet hP q (v + 1)
                have p1 := IntSl.store hP q (v + 1)
                have G1 := IntSl.row hG g1 (.inr (fun e => by have e : some GB = some PB := e; injection e with e; omega))
                have hb2 := hb.grown g1 hsz (fun k hk => by injection hk with hk; omega)
                have hw2 : IntKind.i64.wrap (v + 1) = v + 1 := IntWalk.i64_in _ (by omega)
                have HP6 := hide p1
                have HG6 := hide G1
                have HB6 := hide hb2
                have hz1 : (0 : Int) ≤ j := by omega
                have hz2 : (j : Int) < L := by omega
                have hz3 : (0 : Int) ≤ q := by omega
                have hz4 : (q : Int) < xs.length := by omega
                clear hq hv g1 p1 G1 hb2 hP hG
                go_wp2_with fail
                go_roundw
                case rel => exact ⟨j + 1, ps.set q (v + 1), hjt, by go_num, HQ3, HP6.out, HG6.out, HB6.out⟩
                case measure => simp [intOf]; omega
              · have H4 : Hid (shareOfL xs s = ps) := hide (by
                  have := HQ2.out.1
                  rw [List.drop_of_length_le (by rw [List.length_take]; omega)] at this
                  exact this)
                go_wp2_with fail
                refine bodyPost_ret (results_tmp rfl _ _ _) rfl ⟨_, rfl, by rw [H4.out]; exact hP, hb⟩
end Go.Proofs.YteocmjffjinphaaDoor
