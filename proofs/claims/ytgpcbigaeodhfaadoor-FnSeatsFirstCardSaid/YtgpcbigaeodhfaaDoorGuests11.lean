/- Guests11: contracts of SeatsFirst, of the program and of the reference model.
   Conditions: lists have at most 1048576 elements. -/
import Derived.Test.YtgpcbigaeodhfaaDoorZ2
import Derived.Test.YtgpcbigaeodhfaaDoorZ4
import Derived.Deep.LoopGhost
namespace Go.Proofs.YtgpcbigaeodhfaaDoor
open Go.RowKit Go.ChangeShapes Go.WideShapes Go.ChangeAt Go.Deep

theorem sf_no {g : Int} {q : List Int} (h : quarOk g q = false) : seatsFirstL g q = [] := by unfold seatsFirstL; rw [h]; rfl
theorem clash_here {q : List Int} {u : Int} {k t b : Nat} (hb : b < k) (h1 : (seatsTo q k).getD b 0 = (t : Int)) (h2 : hasB u b = true) : clash u (seatsTo q k) t = true :=
  clash_iff.2 ⟨b, by rw [seatsTo_len]; exact hb, h1, h2⟩

set_option maxRecDepth 100000 in
set_option maxHeartbeats 4000000 in
theorem implSeatsFirst_any (g : Int) (A : Option Addr) (c : Nat) (q : List Int) (w : World) (hA : IntsAt w A q) (hl : q.length ≤ 1048576) :
    Calls Tryd.prog 35 #[.int .i64 g, .slice A q.length c] w fun e w' => ∃ v, e = .returned v ∧ IntSl w' w.heap.size v (seatsFirstL g q) ∧ Below w.heap.size w w' := by
  cases hQ : quarOk g q with
  | false =>
    have HQ := hide hQ
    have HR := hide (sf_no hQ)
    clear hQ
    go_enter Tryd.func35, Tryd.ntmps35
    go_wp2_with fail
    refine (implQuarrelsValid_any _ _ _ _ _ hA hl).mono ?_
    rintro e w1 ⟨rfl, hB1⟩
    rw [HQ.out]
    go_wp2_with fail
    refine bodyPost_ret (results_tmp rfl _ _ _) rfl ⟨.slice none 0 0, rfl, by rw [HR.out]; exact World.ownsRow_nil _ _ _ _, hB1⟩
  | true =>
    have HQ := hide hQ
    have hg := quarOk_g hQ
    have h0 := hg.1
    have h1 := hg.2.1
    have HX : Hid (∀ x ∈ q, 0 ≤ x ∧ x < 64) := hide (fun x hx => ⟨(quarOk_at hQ hx).1, (quarOk_at hQ hx).2.2⟩)
    obtain ⟨n, hn⟩ : ∃ n : Nat, n = q.length := ⟨_, rfl⟩
    obtain rfl : g = n := by omega
    have hnq1 : n ≤ q.length := by omega
    have hnq2 : q.length ≤ n := by omega
    have hmk := make_ints n (by omega)
    have HR : Hid (seatsFirstL n q = seatsTo q n) := hide (by unfold seatsFirstL; rw [if_pos hQ, ← hn])
    clear hn hg hQ
    go_enter Tryd.func35, Tryd.ntmps35
    go_wp2_with fail
    refine (implQuarrelsValid_any _ _ _ _ _ hA hl).mono ?_
    rintro e w0 ⟨rfl, hB1⟩
    rw [HQ.out]
    have hsz1 := hB1.size
    go_wp2_with fail
    have hZ0 : IntSl (((w0.alloc (.cells (madeCells #[.int .i64 0] n) 3)).alloc (.cells (madeCells #[.int .i64 0] n) 3)).drew) w.heap.size (.slice (some ⟨w0.heap.size, 0, none⟩) n n) (tab n (fun _ => 0)) := IntSl.drew (World.ownsRow.alloc (zeros_tabG w0 (lo := w.heap.size) n hsz1 (by omega)) _)
    have hZ1 : IntSl (((w0.alloc (.cells (madeCells #[.int .i64 0] n) 3)).alloc (.cells (madeCells #[.int .i64 0] n) 3)).drew) w.heap.size (.slice (some ⟨w0.heap.size + 1, 0, none⟩) n n) (tab n (fun _ => 0)) := by
      have := IntSl.drew (zeros_tabG (w0.alloc (.cells (madeCells #[.int .i64 0] n) 3)) (lo := w.heap.size) n (by simp; omega) (by omega))
      simpa using this
    have hBW : Below w.heap.size w (((w0.alloc (.cells (madeCells #[.int .i64 0] n) 3)).alloc (.cells (madeCells #[.int .i64 0] n) 3)).drew) := by go_grown
    have HZ0 := hide hZ0
    have HZ1 := hide hZ1
    have HBW := hide hBW
    clear hZ0 hZ1 hBW hB1
    go_region
    all_goals clear hmk
    focus
      generalize ((w0.alloc (.cells (madeCells #[.int .i64 0] n) 3)).alloc (.cells (madeCells #[.int .i64 0] n) 3)).drew = W at HZ0 HZ1 HBW ⊢
      generalize w0.heap.size = PB at *
      obtain ⟨RB, hRB⟩ : ∃ RB, PB + 1 = RB := ⟨_, rfl⟩
      rw [hRB] at HZ1
      have HZP := HZ0
      have HZR := HZ1
      have hPn : ¬ PB = RB := by omega
      have hP0 : w.heap.size ≤ PB := hsz1
      have hR0 : w.heap.size ≤ RB := by omega
      simp only [hRB]
      clear hRB hsz1 HZ0 HZ1
    rotate_left
    focus
      generalize ((w0.alloc (.cells (madeCells #[.int .i64 0] n) 3)).alloc (.cells (madeCells #[.int .i64 0] n) 3)).drew = W at HZ0 HZ1 HBW ⊢
      generalize w0.heap.size = RB at *
      obtain ⟨PB, hRB⟩ : ∃ PB, RB + 1 = PB := ⟨_, rfl⟩
      rw [hRB] at HZ1
      have HZP := HZ1
      have HZR := HZ0
      have hPn : ¬ PB = RB := by omega
      have hR0 : w.heap.size ≤ RB := hsz1
      have hP0 : w.heap.size ≤ PB := by omega
      simp only [hRB]
      clear hRB hsz1 HZ0 HZ1
    all_goals
      go_wp2_with fail
      go_loopw [18] (fun i wr => ∃ k : Nat, k ≤ n ∧ i = .int .i64 k ∧ IntSl wr w.heap.size (.slice (some ⟨PB, 0, none⟩) n n) (tab n (fun j => if j < k then (seatsTo q k).getD j 0 else 0)) ∧ IntSl wr w.heap.size (.slice (some ⟨RB, 0, none⟩) n n) (tab n (fun j => sitTo q k j)) ∧ Below w.heap.size w wr) (fun i _ => n - (intOf i).toNat)
      case atStart => exact ⟨0, Nat.zero_le _, rfl, by rw [show tab n (fun j => if j < 0 then (seatsTo q 0).getD j 0 else 0) = tab n (fun _ => 0) from tab_congr (fun j _ => by simp)]; exact HZP.out, by rw [show tab n (fun j => sitTo q 0 j) = tab n (fun _ => 0) from tab_congr (fun j _ => rfl)]; exact HZR.out, HBW.out⟩
      case round =>
        clear HZP HZR HBW
        obtain ⟨k, hk, rfl, hP, hR, hb⟩ := hrel
        have hsz := hb.size
        by_cases hlt : k < n
        · have hkq : k < q.length := by omega
          have HUE : Hid (q[k]? = some q[k]) := hide (List.getElem?_eq_getElem hkq)
          have HUD : Hid (q.getD k 0 = q[k]) := hide (by simp [hkq])
          have hu := HX.out q[k] (List.getElem_mem hkq)
          generalize q[k] = u at *
          have hz : (0 : Int) ≤ k := by omega
          have hz2 : (k : Int) < n := by omega
          have hz3 : (k : Int) < q.length := by omega
          have hu0 : 0 ≤ u := hu.1
          have hu1 : u < 64 := hu.2
          obtain ⟨bA, offA, rfl, hbl, -⟩ := hA k u HUE.out
          have HP := hide hP
          have HRR := hide hR
          clear hP hR hu
          go_wp2_with fail
          go_loopg [33] k (fun gk _ wr => ∃ t : Nat, t ≤ k ∧ k ≤ t + gk ∧ Hid (∀ i : Nat, i < t → clash u (seatsTo q k) i = true) ∧ IntSl wr w.heap.size (.slice (some ⟨PB, 0, none⟩) n n) (tab n (fun j => if j = k then (t : Int) else if j < k then (seatsTo q k).getD j 0 else 0)) ∧ IntSl wr w.heap.size (.slice (some ⟨RB, 0, none⟩) n n) (tab n (fun j => sitTo q k j)) ∧ Below w.heap.size w wr)
          case atStart => exact ⟨0, Nat.zero_le _, by omega, hide (fun i hi => by omega), by rw [show tab n (fun j => if j = k then ((0 : Nat) : Int) else if j < k then (seatsTo q k).getD j 0 else 0) = tab n (fun j => if j < k then (seatsTo q k).getD j 0 else 0) from tab_congr (fun j _ => by by_cases e : j = k <;> simp [e])]; exact HP.out, HRR.out, hb⟩
          case round =>
            clear HP HRR hb hsz
            obtain ⟨t, ht, htg, HT, hP, hR, hb⟩ := hrel
            have hsz := hb.size
            have hcu := (hA.below hb).cellOf HUE.out
            have hcp := hP.cellAt (tab_at (f := fun j => if j = k then (t : Int) else if j < k then (seatsTo q k).getD j 0 else 0) hlt)
            rw [if_pos rfl] at hcp
            have hfp := hP.frozenAt k
            have hcr := hR.cellAt (tab_at (f := fun j => sitTo q k j) (show t < n by omega))
            have hfr := hR.frozenAt t
            have hsr := sitTo_range q k t (by omega)
            have hand := and_all' hsr.1 hsr.2 hu0 hu1
            have hcl := clash_sit q (a := k) (by omega) hu0 hu1 t
            have ht0 : (0 : Int) ≤ t := by omega
            have ht1 : (t : Int) < n := by omega
            cases hc : clash u (seatsTo q k) t with
            | true =>
              have htk : t < k := by
                by_cases e : t = k
                · subst e
                  have := clash_end q u t
                  rw [hc] at this
                  exact absurd this (by decide)
                · omega
              have hf : (bits .and .i64 (sitTo q k t) u != 0) = true := by rw [hand]; unfold bne; rw [hcl, hc]; rfl
              have H3 : Hid (∀ i : Nat, i < t + 1 → clash u (seatsTo q k) i = true) := hide (fun i hi => by
                by_cases e : i = t
                · subst e; exact hc
                · exact HT.out i (by omega))
              have HALL : Hid (∀ N : Nat, IntSl ((wr.drewN N).setCell ⟨PB, k, none⟩ (.int .i64 ((t : Int) + 1))) w.heap.size (.slice (some ⟨PB, 0, none⟩) n n) (tab n (fun j => if j = k then (((t + 1 : Nat)) : Int) else if j < k then (seatsTo q k).getD j 0 else 0))
                  ∧ IntSl ((wr.drewN N).setCell ⟨PB, k, none⟩ (.int .i64 ((t : Int) + 1))) w.heap.size (.slice (some ⟨RB, 0, none⟩) n n) (tab n (fun j => sitTo q k j))
                  ∧ Below w.heap.size w ((wr.drewN N).setCell ⟨PB, k, none⟩ (.int .i64 ((t : Int) + 1)))) := hide (fun N => by
                have hP2 : IntSl (wr.drewN N) w.heap.size (.slice (some ⟨PB, 0, none⟩) n n) _ := hP.below (below_drewN (Below.refl _ _) N)
                have hR2 : IntSl (wr.drewN N) w.heap.size (.slice (some ⟨RB, 0, none⟩) n n) _ := hR.below (below_drewN (Below.refl _ _) N)
                have g1 := IntSl.grownSet hP2 k ((t : Int) + 1)
                refine ⟨?_, IntSl.row hR2 g1 (.inr (fun e => by have e : some RB = some PB := e; injection e with e; omega)), (below_drewN hb N).grown g1 (below_drewN hb N).size (fun k hk => by injection hk with hk; omega)⟩
                have := IntSl.store hP2 k ((t : Int) + 1)
                rw [tab_set] at this
                rw [show tab n (fun j => if j = k then (((t + 1 : Nat)) : Int) else if j < k then (seatsTo q k).getD j 0 else 0) = tab n (fun j => if j = k then (t : Int) + 1 else if j = k then (t : Int) else if j < k then (seatsTo q k).getD j 0 else 0) from tab_congr (fun j _ => by by_cases e : j = k <;> simp [e])]
                exact this)
              clear hP hR hand hcl hc hsr
              generalize sitTo q k t = sv at *
              go_wp2_with fail
              go_quiet (fail)
              go_wp2_with fail
              go_roundg (gk - 1)
              case measure => omega
              case rel => exact ⟨t + 1, htk, by omega, H3, (HALL.out _).1, (HALL.out _).2.1, (HALL.out _).2.2⟩
            | false =>
              have hf : (bits .and .i64 (sitTo q k t) u != 0) = false := by rw [hand]; unfold bne; rw [hcl, hc]; rfl
              have HTB : Hid (tableOf (q.getD k 0) (seatsTo q k) = t) := hide (by rw [HUD.out]; exact tableOf_of ht HT.out hc)
              have hpw := pow_range k (by omega)
              have hw1 : IntKind.i64.wrap (2 ^ k) = 2 ^ k := IntWalk.i64_in _ (by omega)
              have hw3 : bits .or .i64 (sitTo q k t) (2 ^ k) = orI (sitTo q k t) (2 ^ k) := or_all' _ _ hsr.1 hsr.2 (by omega) hpw.2
              have HALL : Hid (∀ N : Nat, IntSl ((wr.drewN N).setCell ⟨RB, t, none⟩ (.int .i64 (orI (sitTo q k t) (2 ^ k)))) w.heap.size (.slice (some ⟨PB, 0, none⟩) n n) (tab n (fun j => if j < k + 1 then (seatsTo q (k + 1)).getD j 0 else 0))
                  ∧ IntSl ((wr.drewN N).setCell ⟨RB, t, none⟩ (.int .i64 (orI (sitTo q k t) (2 ^ k)))) w.heap.size (.slice (some ⟨RB, 0, none⟩) n n) (tab n (fun j => sitTo q (k + 1) j))
                  ∧ Below w.heap.size w ((wr.drewN N).setCell ⟨RB, t, none⟩ (.int .i64 (orI (sitTo q k t) (2 ^ k))))) := hide (fun N => by
                have hP2 : IntSl (wr.drewN N) w.heap.size (.slice (some ⟨PB, 0, none⟩) n n) _ := hP.below (below_drewN (Below.refl _ _) N)
                have hR2 : IntSl (wr.drewN N) w.heap.size (.slice (some ⟨RB, 0, none⟩) n n) _ := hR.below (below_drewN (Below.refl _ _) N)
                have g1 := IntSl.grownSet hR2 t (orI (sitTo q k t) (2 ^ k))
                refine ⟨?_, ?_, (below_drewN hb N).grown g1 (below_drewN hb N).size (fun k hk => by injection hk with hk; omega)⟩
                · rw [show tab n (fun j => if j < k + 1 then (seatsTo q (k + 1)).getD j 0 else 0) = tab n (fun j => if j = k then (t : Int) else if j < k then (seatsTo q k).getD j 0 else 0) from tab_congr (fun j _ => by
                    by_cases e : j = k
                    · subst e; rw [if_pos (by omega), if_pos rfl, seatsTo_getD_eq, HTB.out]
                    · rw [if_neg e]
                      by_cases e2 : j < k
                      · rw [if_pos e2, if_pos (by omega), seatsTo_getD_lt q e2]
                      · rw [if_neg e2, if_neg (by omega)])]
                  exact IntSl.row hP2 g1 (.inr (fun e => by have e : some PB = some RB := e; injection e with e; omega))
                · have := IntSl.store hR2 t (orI (sitTo q k t) (2 ^ k))
                  rw [tab_set] at this
                  rw [show tab n (fun j => sitTo q (k + 1) j) = tab n (fun j => if j = t then orI (sitTo q k t) (2 ^ k) else sitTo q k j) from tab_congr (fun j _ => by
                    rw [sitTo, HTB.out]
                    by_cases e : j = t
                    · subst e; rw [if_pos rfl, if_pos rfl]
                    · rw [if_neg e, if_neg (by omega)])]
                  exact this)
              clear hP hR hand hcl hc hsr
              generalize sitTo q k t = sv at *
              generalize orI sv (2 ^ k) = ov at *
              go_wp2_with fail
              go_quiet (fail)
              go_wp2_with fail
              refine still_tail_drew 11 (by kernel_rfl) (by kernel_rfl) ?_
              simp only [List.take_succ_cons, List.take_zero, List.drop_succ_cons, List.drop_zero]
              repeat still_step
              refine wpStill_nil ?_
              go_wp2_with fail
              go_roundw
              case rel => exact ⟨k + 1, hlt, by go_num, (HALL.out _).1, (HALL.out _).2.1, (HALL.out _).2.2⟩
              case measure => simp [intOf]; omega
        · have HN : Hid (IntSl wr w.heap.size (.slice (some ⟨PB, 0, none⟩) n n) (seatsTo q n)) := hide (by
            obtain rfl : k = n := by omega
            rw [← tab_self (seatsTo_len q k), show tab k (fun j => (seatsTo q k).getD j 0) = tab k (fun j => if j < k then (seatsTo q k).getD j 0 else 0) from tab_congr (fun i hi => by rw [if_pos hi])]
            exact hP)
          clear hP hR
          go_wp2_with fail
          refine bodyPost_ret (results_tmp rfl _ _ _) rfl ⟨.slice (some ⟨PB, 0, none⟩) n n, rfl, by rw [HR.out]; exact HN.out, hb⟩

set_option maxRecDepth 100000 in
set_option maxHeartbeats 4000000 in
theorem specSeatsFirst_any (g : Int) (A : Option Addr) (c : Nat) (q : List Int) (w : World) (hA : IntsAt w A q) (hl : q.length ≤ 1048576) :
    Calls Tryd.prog 36 #[.int .i64 g, .slice A q.length c] w fun e w' => ∃ v, e = .returned v ∧ IntSl w' w.heap.size v (seatsFirstL g q) ∧ Below w.heap.size w w' := by
  have HO0 : Hid (IntSl (w.alloc (.cells #[] 3)) w.heap.size (.slice (some ⟨w.heap.size, 0, none⟩) 0 0) []) := hide (World.ownsRow_lit w #[] 0 (Nat.le_refl _) (by unfold maxLen; omega) rfl)
  have HBA0 : Hid (Below w.heap.size w (w.alloc (.cells #[] 3))) := hide (by go_grown)
  cases hQ : quarOk g q with
  | false =>
    have HQ := hide hQ
    have HR := hide (sf_no hQ)
    clear hQ
    by_cases hg0 : 0 < g
    · go_enter Tryd.func36, Tryd.ntmps36
      go_wp2_with fail
      go_loopw [5, 6] (fun ov iv wr => ov = .slice (some ⟨w.heap.size, 0, none⟩) 0 0 ∧ iv = .int .i64 0 ∧ wr = w.alloc (.cells #[] 3)) (fun _ _ _ => 0)
      case atStart => exact ⟨rfl, rfl, rfl⟩
      case round =>
        obtain ⟨rfl, rfl, rfl⟩ := hrel
        go_wp2_with fail
        refine (specQuarrelsValid_any _ _ _ _ _ (hA.below HBA0.out) hl).mono ?_
        rintro e w1 ⟨rfl, hB1⟩
        rw [HQ.out]
        have HP1 := hide (IntSl.below HO0.out hB1)
        have hb1 := next HBA0.out hB1
        go_wp2_with fail
        refine bodyPost_ret (results_tmp rfl _ _ _) rfl ⟨_, rfl, by rw [HR.out]; exact HP1.out, hb1⟩
    · go_enter Tryd.func36, Tryd.ntmps36
      go_wp2_with fail
      go_loopw [5, 6] (fun ov iv wr => ov = .slice (some ⟨w.heap.size, 0, none⟩) 0 0 ∧ iv = .int .i64 0 ∧ wr = w.alloc (.cells #[] 3)) (fun _ _ _ => 0)
      case atStart => exact ⟨rfl, rfl, rfl⟩
      case round =>
        obtain ⟨rfl, rfl, rfl⟩ := hrel
        go_wp2_with fail
        refine bodyPost_ret (results_tmp rfl _ _ _) rfl ⟨_, rfl, by rw [HR.out]; exact HO0.out, HBA0.out⟩
  | true =>
    have HQ := hide hQ
    have hg := quarOk_g hQ
    have h0 := hg.1
    have h1 := hg.2.1
    have HX : Hid (∀ x ∈ q, 0 ≤ x ∧ x < 64) := hide (fun x hx => ⟨(quarOk_at hQ hx).1, (quarOk_at hQ hx).2.2⟩)
    obtain ⟨n, hn⟩ : ∃ n : Nat, n = q.length := ⟨_, rfl⟩
    obtain rfl : g = n := by omega
    have hnq1 : n ≤ q.length := by omega
    have hnq2 : q.length ≤ n := by omega
    have HR : Hid (seatsFirstL n q = seatsTo q n) := hide (by unfold seatsFirstL; rw [if_pos hQ, ← hn])
    clear hn hg hQ
    go_enter Tryd.func36, Tryd.ntmps36
    go_wp2_with fail
    go_loopw [5, 6] (fun ov iv wr => ∃ k : Nat, k ≤ n ∧ iv = .int .i64 k ∧ IntSl wr w.heap.size ov (seatsTo q k) ∧ Below w.heap.size w wr) (fun _ iv _ => n - (intOf iv).toNat)
    case atStart => exact ⟨0, Nat.zero_le _, rfl, HO0.out, HBA0.out⟩
    case round =>
      clear HO0 HBA0
      obtain ⟨k, hk, rfl, hS, hb⟩ := hrel
      have hsz := hb.size
      by_cases hlt : k < n
      · have hkq : k < q.length := by omega
        have HUE : Hid (q[k]? = some q[k]) := hide (List.getElem?_eq_getElem hkq)
        have HUD : Hid (q.getD k 0 = q[k]) := hide (by simp [hkq])
        have hu := HX.out q[k] (List.getElem_mem hkq)
        generalize q[k] = u at *
        have hz : (0 : Int) ≤ k := by omega
        have hz2 : (k : Int) < n := by omega
        have hz3 : (k : Int) < q.length := by omega
        have hu0 : 0 ≤ u := hu.1
        have hu1 : u < 64 := hu.2
        obtain ⟨bA, offA, rfl, hbl, -⟩ := hA k u HUE.out
        obtain ⟨Ao, co, hv, -, -⟩ := hS.form
        have hsl := seatsTo_len q k
        rw [hsl] at hv
        subst hv
        have HS := hide hS
        have HSL := hide hsl
        clear hS hu hsl
        go_wp2_with fail
        refine (specQuarrelsValid_any _ _ _ _ _ (hA.below hb) hl).mono ?_
        rintro e w1 ⟨rfl, hB1⟩
        rw [HQ.out]
        have HS1 := hide (IntSl.below HS.out hB1)
        have hb1 := next hb hB1
        clear HS hb hB1
        go_wp2_with fail
        go_loopw [7, 8] (fun tv bv wr => ∃ (t b : Nat), t ≤ k ∧ b ≤ k ∧ tv = .int .i64 t ∧ bv = .int .i64 b ∧ Hid (∀ i : Nat, i < t → clash u (seatsTo q k) i = true) ∧ Hid (∀ i : Nat, i < b → ¬ ((seatsTo q k).getD i 0 = (t : Int) ∧ hasB u i = true)) ∧ IntSl wr w.heap.size (.slice Ao k co) (seatsTo q k) ∧ Below w.heap.size w wr) (fun tv bv _ => ((7 - intOf tv) * 8 + (8 - intOf bv)).toNat)
        case atStart => exact ⟨0, 0, Nat.zero_le _, Nat.zero_le _, rfl, rfl, hide (fun i hi => by omega), hide (fun i hi => by omega), HS1.out, hb1⟩
        case round =>
          clear HS1 hb1 hsz
          obtain ⟨t, b, ht, hbk, rfl, rfl, HT, HB, hS, hb⟩ := hrel
          have hsz := hb.size
          have hcu := (hA.below hb).cellOf HUE.out
          by_cases hbl2 : b < k
          · obtain ⟨y, HY⟩ : ∃ y, Hid ((seatsTo q k)[b]? = some y) := ⟨_, hide (List.getElem?_eq_getElem (by rw [HSL.out]; exact hbl2))⟩
            have HYD : Hid ((seatsTo q k).getD b 0 = y) := hide (getD_at HY.out)
            obtain ⟨bo, offo, rfl, hblo, hcy⟩ := hS.ints b y HY.out
            have hd := div_range u b hu0 hu1
            have hb0 : (0 : Int) ≤ b := by omega
            have hb1 : (b : Int) < k := by omega
            have HS := hide hS
            clear hS
            have HNX : ¬ (y = (t : Int) ∧ hasB u b = true) → Hid (∀ i : Nat, i < b + 1 → ¬ ((seatsTo q k).getD i 0 = (t : Int) ∧ hasB u i = true)) := fun h => hide (fun i hi => by
              by_cases e : i = b
              · subst e; rw [HYD.out]; exact h
              · exact HB.out i (by omega))
            cases hyt : (y == (t : Int)) with
            | false =>
              have H3 := HNX (fun h => by rw [h.1] at hyt; simp at hyt)
              clear HNX
              go_wp2_with fail
              go_roundw
              case rel => exact ⟨t, b + 1, ht, hbl2, rfl, by go_num, HT, H3, HS.out, hb⟩
              case measure => simp [intOf]; omega
            | true =>
              cases hh : hasB u b with
              | false =>
                have hf : (u / 2 ^ b % 2 == 1) = false := hh
                have H3 := HNX (fun h => by rw [hh] at h; exact absurd h.2 (by decide))
                clear HNX hh
                go_wp2_with fail
                go_roundw
                case rel => exact ⟨t, b + 1, ht, hbl2, rfl, by go_num, HT, H3, HS.out, hb⟩
                case measure => simp [intOf]; omega
              | true =>
                have hf : (u / 2 ^ b % 2 == 1) = true := hh
                have hc : clash u (seatsTo q k) t = true := clash_here hbl2 (by rw [HYD.out]; simpa using hyt) hh
                have htk : t < k := by
                  by_cases e : t = k
                  · subst e
                    have := clash_end q u t
                    rw [hc] at this
                    exact absurd this (by decide)
                  · omega
                have H3 : Hid (∀ i : Nat, i < t + 1 → clash u (seatsTo q k) i = true) := hide (fun i hi => by
                  by_cases e : i = t
                  · subst e; exact hc
                  · exact HT.out i (by omega))
                have H4 : Hid (∀ i : Nat, i < 0 → ¬ ((seatsTo q k).getD i 0 = ((t + 1 : Nat) : Int) ∧ hasB u i = true)) := hide (fun i hi => by omega)
                clear HNX hh hc
                go_wp2_with fail
                go_roundw
                case rel => exact ⟨t + 1, 0, htk, Nat.zero_le _, by go_num, rfl, H3, H4, HS.out, hb⟩
                case measure => simp [intOf]; omega
          · obtain rfl : b = k := by omega
            have HTB : Hid (tableOf (q.getD b 0) (seatsTo q b) = t) := hide (by
              rw [HUD.out]
              refine tableOf_of ht HT.out ?_
              cases hc : clash u (seatsTo q b) t with
              | false => rfl
              | true =>
                obtain ⟨i, hi, h2, h3⟩ := clash_iff.1 hc
                rw [seatsTo_len] at hi
                exact absurd ⟨h2, h3⟩ (HB.out i hi))
            have HE : Hid (seatsTo q b ++ [(t : Int)] = seatsTo q (b + 1)) := hide (by rw [seatsTo, HTB.out])
            have hlen : (seatsTo q b).length ≤ 6 := by rw [HSL.out]; omega
            have hSr : IntSl wr w.heap.size (.slice Ao (seatsTo q b).length co) (seatsTo q b) := by rw [HSL.out]; exact hS
            have HSA := hide (World.ownsRow.alloc hS (.cells #[.int .i64 t] 3))
            have HBA := hide (hb.alloc hsz (.cells #[.int .i64 t] 3))
            have HLT := hide (World.ownsRow.lt hS)
            clear hS hSr
            go_wp2_with (at_builtin; refine wpList_push_int rfl _ _ rfl w.heap.size (.slice Ao b co) (seatsTo q b) rfl HSA.out wr.heap.size (t : Int) rfl (heap_alloc_new wr _) (by omega) (by simp; omega) ?_; intro g5 cap w5 hown hgrow hnew)
            have hb5 : Below w.heap.size w w5 := HBA.out.grown hgrow (by simp; omega) (fun k hk => (HLT.out k hk).1)
            rw [HE.out] at hown
            clear hgrow hnew
            go_wp2_with fail
            go_roundw
            case rel => exact ⟨b + 1, hlt, by go_num, hown, hb5⟩
            case measure => simp [intOf]; omega
      · obtain rfl : k = n := by omega
        have HS := hide hS
        clear hS
        go_wp2_with fail
        refine bodyPost_ret (results_tmp rfl _ _ _) rfl ⟨_, rfl, by rw [HR.out]; exact HS.out, hb⟩
end Go.Proofs.YtgpcbigaeodhfaaDoor
