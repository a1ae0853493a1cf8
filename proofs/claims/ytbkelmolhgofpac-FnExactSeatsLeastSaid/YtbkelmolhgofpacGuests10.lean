/- Guests10: contracts of CliqueMost, of the program and of the reference model.
   Conditions: lists have at most 1048576 elements. -/
import Derived.Test.YtbkelmolhgofpacGuestMath4
import Derived.Test.YtbkelmolhgofpacGuests6
import Derived.Test.YtbkelmolhgofpacGuests8
import Derived.Test.YtbkelmolhgofpacGuests9
namespace Go.Proofs.Ytbkelmolhgofpac
open Go.RowKit Go.ChangeShapes Go.WideShapes Go.ChangeAt Go.Deep

theorem cq_no {g : Int} {q : List Int} (h : quarOk g q = false) : cliqueMostL g q = -1 := by unfold cliqueMostL; rw [h]; rfl
theorem allN_succ (n : Nat) (f : Nat → Bool) : allN (n + 1) f = (allN n f && f n) := by unfold allN; rw [List.range_succ, List.all_append]; simp
theorem bit_zero (x : Int) (k : Nat) : (x / 2 ^ k % 2 == 0) = !hasB x k := by
  unfold hasB
  rcases Int.emod_two_eq (x / 2 ^ k) with h | h <;> rw [h] <;> rfl
theorem allGuests_is (g : Int) (w : World) (h0 : 0 ≤ g) (h1 : g ≤ 6) :
    Calls Try.prog 25 #[.int .i64 g] w fun e w' => e = .returned (.int .i64 (full g)) ∧ w' = w := (allGuests_any g w h0 h1).mono fun _ _ h => ⟨h.1, h.2.symm⟩

set_option maxRecDepth 100000 in
set_option maxHeartbeats 2000000 in
theorem implCliqueMost_any (g : Int) (A : Option Addr) (c : Nat) (q : List Int) (w : World) (hA : IntsAt w A q) (hl : q.length ≤ 1048576) :
    Calls Try.prog 18 #[.int .i64 g, .slice A q.length c] w fun e w' => e = .returned (.int .i64 (cliqueMostL g q)) ∧ Below w.heap.size w w' := by
  cases hQ : quarOk g q with
  | false =>
    have HQ := hide hQ
    have HR := hide (cq_no hQ)
    clear hQ
    go_enter Try.func18, Try.ntmps18
    go_wp2_with fail
    refine (implQuarrelsValid_any _ _ _ _ _ hA hl).mono ?_
    rintro e w1 ⟨rfl, hB1⟩
    rw [HQ.out]
    go_wp2_with fail
    go_ret
    exact ⟨by rw [HR.out]; rfl, hB1⟩
  | true =>
    have HQ := hide hQ
    have hg := quarOk_g hQ
    have h0 := hg.1
    have h1 := hg.2.1
    have HX : Hid (∀ x ∈ q, 0 ≤ x ∧ x < 64) := hide (fun x hx => ⟨(quarOk_at hQ hx).1, (quarOk_at hQ hx).2.2⟩)
    obtain ⟨n, hn⟩ : ∃ n : Nat, n = q.length := ⟨_, rfl⟩
    obtain rfl : g = n := by omega
    have hnq1 : n ≤ q.length := by omega
    have hnq2 : q.length ≤ n := by omega
    have hmk := make_ints n (by omega)
    have HR : Hid (cliqueMostL n q = mostGo (peaceL n q) (2 ^ n)) := hide (by unfold cliqueMostL; rw [if_pos hQ, Int.toNat_natCast])
    have HZ0 := hide (fun (W : World) (hW : w.heap.size ≤ W.heap.size) => zeros_tabG W (lo := w.heap.size) n hW (by omega))
    have HPM : Hid (∀ x ∈ peaceL n q, 0 ≤ x ∧ x < 64) := hide (fun x hx => by
      obtain ⟨i, hi⟩ := List.getElem?_of_mem hx
      have hil := (List.getElem?_eq_some_iff.1 hi).1
      unfold peaceL at hil hi
      rw [tab_len] at hil
      rw [tab_at hil] at hi
      injection hi with hi
      rw [← hi]
      have hu := quarOk_getD hQ i
      have hf := full_range h0 h1
      have hp := pow_range i (by omega)
      have d1 := drop_range hf.1 hf.2 hu.1 hu.2.2
      have d2 := drop_range (y := 2 ^ i) d1.1 (by omega) (by omega) hp.2
      omega)
    have HPE : Hid (peaceL n q = tab n (fun i => dropI (dropI (full n) (q.getD i 0)) (2 ^ i))) := hide rfl
    have hF := full_range h0 h1
    clear hn hg hQ
    go_enter Try.func18, Try.ntmps18
    go_wp2_with fail
    refine (implQuarrelsValid_any _ _ _ _ _ hA hl).mono ?_
    rintro e w1 ⟨rfl, hB1⟩
    rw [HQ.out]
    have hszB := hB1.size
    go_wp2_with fail
    clear hmk
    have HS0 := hide (HZ0.out w1 hszB)
    go_loopw [16] (fun i wr => ∃ (k : Nat), k ≤ n ∧ i = .int .i64 k ∧ IntSl wr w.heap.size (.slice (some ⟨w1.heap.size, 0, none⟩) n n) (tab n (fun j => if j < k then dropI (dropI (full n) (q.getD j 0)) (2 ^ j) else 0)) ∧ w1.heap.size < wr.heap.size ∧ Below w.heap.size w wr) (fun i _ => n - (intOf i).toNat)
    case atStart => exact ⟨0, Nat.zero_le _, rfl, by rw [show tab n (fun j => if j < 0 then dropI (dropI (full n) (q.getD j 0)) (2 ^ j) else 0) = tab n (fun _ => 0) from tab_congr (fun j _ => by simp)]; exact HS0.out, by simp, by go_grown⟩
    case round =>
      clear HS0
      obtain ⟨k, hk, rfl, hS, hlt0, hb⟩ := hrel
      have hsz := hb.size
      by_cases hlt : k < n
      · have hkq : k < q.length := by omega
        obtain ⟨b, off, rfl, hbl, hc1⟩ := (hA.below hb) k q[k] (List.getElem?_eq_getElem hkq)
        have HUD : Hid (q.getD k 0 = q[k]) := hide (by simp [hkq])
        have hu := HX.out q[k] (List.getElem_mem hkq)
        generalize q[k] = u at *
        have hz : (0 : Int) ≤ k := by omega
        have hz2 : (k : Int) < n := by omega
        have hz3 : (k : Int) < q.length := by omega
        have hpw := pow_range k (by omega)
        have d1 := drop_range hF.1 hF.2 hu.1 hu.2
        have d2 := drop_range (y := 2 ^ k) d1.1 (by omega) (by omega) hpw.2
        have hw1 : IntKind.i64.wrap (2 ^ k) = 2 ^ k := IntWalk.i64_in _ (by omega)
        have hw2 : bits .andNot .i64 (full n) u = dropI (full n) u := andNot_all' hF.1 hF.2 hu.1 hu.2
        have hw3 : bits .andNot .i64 (dropI (full n) u) (2 ^ k) = dropI (dropI (full n) u) (2 ^ k) := andNot_all' d1.1 (by omega) (by omega) hpw.2
        have HC := hide (fun W => allGuests_is (n : Int) W h0 h1)
        have hcell := hS.cellAt (tab_at (f := fun j => if j < k then dropI (dropI (full n) (q.getD j 0)) (2 ^ j) else 0) hlt)
        have hfz := hS.frozenAt k
        have HN : Hid (IntSl (wr.setCell ⟨w1.heap.size, k, none⟩ (.int .i64 (dropI (dropI (full n) u) (2 ^ k)))) w.heap.size (.slice (some ⟨w1.heap.size, 0, none⟩) n n) (tab n (fun j => if j < k + 1 then dropI (dropI (full n) (q.getD j 0)) (2 ^ j) else 0))) := hide (by
          have := IntSl.store hS k (dropI (dropI (full n) u) (2 ^ k))
          rw [tab_set] at this
          rw [show tab n (fun j => if j < k + 1 then dropI (dropI (full n) (q.getD j 0)) (2 ^ j) else 0) = tab n (fun i => if i = k then dropI (dropI (full n) u) (2 ^ k) else if i < k then dropI (dropI (full n) (q.getD i 0)) (2 ^ i) else 0) from tab_congr (fun i _ => by
            by_cases e : i = k
            · subst e; rw [if_pos (by omega), if_pos rfl, HUD.out]
            · rw [if_neg e]
              by_cases e2 : i < k
              · rw [if_pos e2, if_pos (by omega)]
              · rw [if_neg e2, if_neg (by omega)])]
          exact this)
        have HB5 := hide (hb.grown (IntSl.grownSet hS k (dropI (dropI (full n) u) (2 ^ k))) hsz (fun k hk => by injection hk with hk; omega))
        clear hS hu
        go_wp2_with fail
        refine still_tail_drew 10 (by kernel_rfl) (by kernel_rfl) ?_
        simp only [List.take_succ_cons, List.take_zero, List.drop_succ_cons, List.drop_zero]
        repeat still_step
        still_call (HC.out _)
        repeat still_step
        refine wpStill_nil ?_
        go_wp2_with fail
        go_roundw
        case rel => exact ⟨k + 1, hlt, by go_num, IntSl.drew HN.out, by simp; exact hlt0, HB5.out.drew⟩
        case measure => simp [intOf]; omega
      · have HN : Hid (IntSl wr w.heap.size (.slice (some ⟨w1.heap.size, 0, none⟩) n n) (peaceL n q)) := hide (by
          rw [HPE.out, show tab n (fun i => dropI (dropI (full n) (q.getD i 0)) (2 ^ i)) = tab n (fun j => if j < k then dropI (dropI (full n) (q.getD j 0)) (2 ^ j) else 0) from tab_congr (fun i hi => by rw [if_pos (by omega)])]
          exact hS)
        have hpl : (peaceL n q).length = n := by rw [HPE.out, tab_len]
        have hG := mostApart_any (some ⟨w1.heap.size, 0, none⟩) n (peaceL n q) wr HN.out.ints (by omega) HPM.out
        rw [hpl] at hG
        clear hS hpl
        go_wp2_with fail
        refine hG.mono ?_
        rintro e w5 ⟨rfl, rfl⟩
        go_wp2_with fail
        go_ret
        exact ⟨by rw [HR.out]; rfl, hb⟩

set_option maxRecDepth 100000 in
set_option maxHeartbeats 2000000 in
theorem specCliqueMost_any (g : Int) (A : Option Addr) (c : Nat) (q : List Int) (w : World) (hA : IntsAt w A q) (hl : q.length ≤ 1048576) :
    Calls Try.prog 17 #[.int .i64 g, .slice A q.length c] w fun e w' => e = .returned (.int .i64 (cliqueMostL g q)) ∧ Below w.heap.size w w' := by
  cases hQ : quarOk g q with
  | false =>
    have HQ := hide hQ
    have HR := hide (cq_no hQ)
    clear hQ
    go_enter Try.func17, Try.ntmps17
    go_wp2_with fail
    refine (specQuarrelsValid_any _ _ _ _ _ hA hl).mono ?_
    rintro e w1 ⟨rfl, hB1⟩
    rw [HQ.out]
    go_wp2_with fail
    go_ret
    exact ⟨by rw [HR.out]; rfl, hB1⟩
  | true =>
    have HQ := hide hQ
    have hg := quarOk_g hQ
    have h0 := hg.1
    have h1 := hg.2.1
    have HX : Hid (∀ x ∈ q, 0 ≤ x ∧ x < 64) := hide (fun x hx => ⟨(quarOk_at hQ hx).1, (quarOk_at hQ hx).2.2⟩)
    obtain ⟨n, hn⟩ : ∃ n : Nat, n = q.length := ⟨_, rfl⟩
    obtain rfl : g = n := by omega
    have hnq1 : n ≤ q.length := by omega
    have hnq2 : q.length ≤ n := by omega
    have hn6 : n ≤ 6 := by omega
    have hp := pow_range6 n hn6
    have HN : Hid (((2 ^ n : Nat) : Int) = (2 : Int) ^ n) := hide (by simp)
    have HR : Hid (cliqueMostL n q = mostGo (peaceL n q) (2 ^ n)) := hide (by unfold cliqueMostL; rw [if_pos hQ, Int.toNat_natCast])
    have HCA : Hid (∀ x : Int, 0 ≤ x → x < 2 ^ n → apartS x (peaceL n q) = cliqueIn q x n) := hide (fun x a b => by
      have := clique_apart hQ a (by rw [full_nat]; omega)
      rwa [Int.toNat_natCast] at this)
    clear hn hg hQ
    go_enter Try.func17, Try.ntmps17
    go_wp2_with fail
    refine (specQuarrelsValid_any _ _ _ _ _ hA hl).mono ?_
    rintro e w1 ⟨rfl, hB1⟩
    rw [HQ.out]
    have hszB := hB1.size
    go_wp2_with fail
    go_loopw [5, 6] (fun sv i wr => ∃ (x s : Int), 0 ≤ x ∧ x ≤ 2 ^ n ∧ i = .int .i64 x ∧ sv = .int .i64 s ∧ 0 ≤ s ∧ s ≤ 64 ∧ Hid (mostGo (peaceL n q) x.toNat = s) ∧ Below w.heap.size w wr) (fun _ i _ => 64 - (intOf i).toNat)
    case atStart => exact ⟨0, 0, by omega, by omega, rfl, rfl, by omega, by omega, hide rfl, hB1⟩
    case round =>
      obtain ⟨x, s, hx0, hk, rfl, rfl, hs0, hs1, HG, hb⟩ := hrel
      have hsz := hb.size
      by_cases hlt : x < 2 ^ n
      · have hx1 : x < 64 := by omega
        have HA := hide (HCA.out x hx0 hlt)
        go_wp2_with fail
        go_loopw [7, 8] (fun av j wr => ∃ (t : Nat) (b : Bool), t ≤ n ∧ j = .int .i64 t ∧ av = .bool b ∧ Hid (cliqueIn q x t = b) ∧ Below w.heap.size w wr) (fun _ j _ => n - (intOf j).toNat)
        case atStart => exact ⟨0, true, Nat.zero_le _, rfl, rfl, hide rfl, hb⟩
        case round =>
          clear hb hsz
          obtain ⟨t, b, ht, rfl, rfl, HT, hb⟩ := hrel
          have hsz := hb.size
          by_cases htl : t < n
          · have htq : t < q.length := by omega
            obtain ⟨ab, off, rfl, hbl, hc1⟩ := (hA.below hb) t q[t] (List.getElem?_eq_getElem htq)
            have HUD : Hid (q.getD t 0 = q[t]) := hide (by simp [htq])
            have hu := HX.out q[t] (List.getElem_mem htq)
            generalize q[t] = u at *
            have hmt := meet_range hu.1 hu.2 hx0 hx1
            have HSTEP : Hid (cliqueIn q x (t + 1) = (b && (!hasB x t || (meetI u x == x - 2 ^ t)))) := hide (by
              have h := HT.out
              unfold cliqueIn at h ⊢
              rw [allN_succ, h, HUD.out])
            have HC := hide (fun W => l1Meet64_any u x W hu.1 hu.2 hx0 hx1)
            have hd := div_range x t hx0 hx1
            have hpt := pow_range t (by omega)
            have hw1 : IntKind.i64.wrap (2 ^ t) = 2 ^ t := IntWalk.i64_in _ (by omega)
            have hw2 : IntKind.i64.wrap (x - 2 ^ t) = x - 2 ^ t := IntWalk.i64_in _ (by omega)
            have hbz := bit_zero x t
            have ht0 : (0 : Int) ≤ t := by omega
            have ht1 : (t : Int) < n := by omega
            have ht2 : (t : Int) < q.length := by omega
            clear hu hmt
            generalize meetI u x = z at *
            cases b with
            | false =>
              have H3 : Hid (cliqueIn q x (t + 1) = false) := hide (by rw [HSTEP.out]; rfl)
              clear hbz
              go_wp2_with fail
              go_quiet ((go_at_call 22; exact Calls.quiet_of_same (HC.out _)))
              go_wp2_with fail
              go_roundw
              case rel => exact ⟨t + 1, false, htl, by go_num, rfl, H3, below_drewN hb _⟩
              case measure => simp [intOf]; omega
            | true =>
              cases hh : hasB x t with
              | false =>
                have hf : (x / 2 ^ t % 2 == 0) = true := by rw [hbz, hh]; rfl
                have H3 : Hid (cliqueIn q x (t + 1) = true) := hide (by rw [HSTEP.out, hh]; rfl)
                clear hbz hh
                go_wp2_with fail
                go_quiet ((go_at_call 22; exact Calls.quiet_of_same (HC.out _)))
                go_wp2_with fail
                go_roundw
                case rel => exact ⟨t + 1, true, htl, by go_num, rfl, H3, below_drewN hb _⟩
                case measure => simp [intOf]; omega
              | true =>
                have hf : (x / 2 ^ t % 2 == 0) = false := by rw [hbz, hh]; rfl
                cases hzz : (z == x - 2 ^ t) with
                | false =>
                  have H3 : Hid (cliqueIn q x (t + 1) = false) := hide (by rw [HSTEP.out, hh, hzz]; rfl)
                  clear hbz hh
                  go_wp2_with fail
                  go_quiet ((go_at_call 22; exact Calls.quiet_of_same (HC.out _)))
                  go_wp2_with fail
                  go_roundw
                  case rel => exact ⟨t + 1, false, htl, by go_num, rfl, H3, below_drewN hb _⟩
                  case measure => simp [intOf]; omega
                | true =>
                  have H3 : Hid (cliqueIn q x (t + 1) = true) := hide (by rw [HSTEP.out, hzz]; simp)
                  clear hbz hh
                  go_wp2_with fail
                  go_quiet ((go_at_call 22; exact Calls.quiet_of_same (HC.out _)))
                  go_wp2_with fail
                  go_roundw
                  case rel => exact ⟨t + 1, true, htl, by go_num, rfl, H3, below_drewN hb _⟩
                  case measure => simp [intOf]; omega
          · obtain rfl : t = n := by omega
            rw [HT.out] at HA
            cases b with
            | false =>
              have H3 : Hid (mostGo (peaceL t q) (x + 1).toNat = s) := hide (by
                rw [show (x + 1).toNat = x.toNat + 1 from by omega]
                exact most_skip HG.out (by rw [Int.toNat_of_nonneg hx0]; exact HA.out))
              go_wp2_with fail
              go_roundw
              case rel => exact ⟨x + 1, s, by omega, by omega, rfl, rfl, hs0, hs1, H3, hb⟩
              case measure => simp [intOf]; omega
            | true =>
              have H3 : Hid (mostGo (peaceL t q) (x + 1).toNat = if s < sz x then sz x else s) := hide (by
                rw [show (x + 1).toNat = x.toNat + 1 from by omega]
                have := most_step HG.out (by rw [Int.toNat_of_nonneg hx0]; exact HA.out)
                rwa [Int.toNat_of_nonneg hx0] at this)
              have hz := sz_bound x
              have HC := hide (fun W => l6Count_any x W hx0 (by omega))
              generalize sz x = z at *
              by_cases hsl : s < z
              · have H4 : Hid (mostGo (peaceL t q) (x + 1).toNat = z) := hide (by rw [H3.out, if_pos hsl])
                go_wp2_with fail
                refine (HC.out _).mono ?_
                rintro e w2 ⟨rfl, rfl⟩
                go_wp2_with fail
                go_roundw
                case rel => exact ⟨x + 1, z, by omega, by omega, rfl, rfl, hz.1, hz.2, H4, hb⟩
                case measure => simp [intOf]; omega
              · have H4 : Hid (mostGo (peaceL t q) (x + 1).toNat = s) := hide (by rw [H3.out, if_neg hsl])
                go_wp2_with fail
                refine (HC.out _).mono ?_
                rintro e w2 ⟨rfl, rfl⟩
                go_wp2_with fail
                go_roundw
                case rel => exact ⟨x + 1, s, by omega, by omega, rfl, rfl, hs0, hs1, H4, hb⟩
                case measure => simp [intOf]; omega
      · have H3 : Hid (cliqueMostL n q = s) := hide (by rw [HR.out, ← HG.out, show x.toNat = 2 ^ n from by have := HN.out; omega])
        go_wp2_with fail
        go_ret
        exact ⟨by rw [H3.out]; rfl, hb⟩
end Go.Proofs.Ytbkelmolhgofpac
