/- Guests14: contracts of SeatsLeast of the program.
   Conditions: lists have at most 1048576 elements. -/
import Derived.Test.YtgpcbigaeodhfaaDoorGuests12
namespace Go.Proofs.YtgpcbigaeodhfaaDoor
open Go.RowKit Go.ChangeShapes Go.WideShapes Go.ChangeAt Go.Deep

theorem tblI_getD_lt (q : List Int) {a b : Nat} (h : b < a) : (tblI q (a + 1)).getD b 0 = (tblI q a).getD b 0 := by
  rw [tblI, List.getD_eq_getElem?_getD, List.getElem?_append_left (by rw [tblI_len]; exact h), ← List.getD_eq_getElem?_getD]
theorem tblI_getD_eq (q : List Int) (a : Nat) : (tblI q (a + 1)).getD a 0 = cellI q (tblI q a) a := by
  rw [tblI, List.getD_eq_getElem?_getD, List.getElem?_append_right (by rw [tblI_len]; exact Nat.le_refl _), tblI_len]
  simp

theorem getD_high {T : List Int} (hT : ∀ x ∈ T, 0 ≤ x ∧ x ≤ 64) (i : Nat) : T.getD i 0 ≤ 64 := by
  by_cases e : i < T.length
  · rw [show T.getD i 0 = T[i] from by simp [e]]
    exact (hT _ (List.getElem_mem e)).2
  · rw [show T.getD i 0 = 0 from by simp [e]]
    omega
def rowAt (q : List Int) (N k : Nat) : List Int := tab N (fun j => if j < k then (tblI q k).getD j 0 else 0)
def rowIn (q : List Int) (N k : Nat) (v : Int) : List Int := tab N (fun j => if j = k then v else if j < k then (tblI q k).getD j 0 else 0)

theorem rowAt_zero (q : List Int) (N : Nat) : rowAt q N 0 = tab N (fun _ => 0) := by unfold rowAt; exact tab_congr (fun j _ => by simp)
theorem rowAt_set (q : List Int) (N k : Nat) (v : Int) : (rowAt q N k).set k v = rowIn q N k v := by
  unfold rowAt rowIn
  rw [tab_set]
theorem rowIn_set (q : List Int) (N k : Nat) (v v' : Int) : (rowIn q N k v).set k v' = rowIn q N k v' := by
  unfold rowIn
  rw [tab_set]
  exact tab_congr (fun j _ => by by_cases e : j = k <;> simp [e])
theorem rowIn_done {q : List Int} {N k : Nat} {v : Int} (h : cellI q (tblI q k) k = v) : rowIn q N k v = rowAt q N (k + 1) := by
  unfold rowIn rowAt
  exact tab_congr (fun j _ => by
    by_cases e : j = k
    · subst e; rw [if_pos rfl, if_pos (by omega), tblI_getD_eq, h]
    · rw [if_neg e]
      by_cases e2 : j < k
      · rw [if_pos e2, if_pos (by omega), tblI_getD_lt q e2]
      · rw [if_neg e2, if_neg (by omega)])
theorem rowAt_len (q : List Int) (N k : Nat) : (rowAt q N k).length = N := tab_len _ _
theorem rowIn_len (q : List Int) (N k : Nat) (v : Int) : (rowIn q N k v).length = N := tab_len _ _
theorem rowIn_self {q : List Int} {N k : Nat} {v : Int} (h : k < N) : (rowIn q N k v)[k]? = some v := by
  unfold rowIn; rw [tab_at h, if_pos rfl]
theorem rowIn_low {q : List Int} {N k r : Nat} {v : Int} (h : r < k) (hk : k < N) : (rowIn q N k v)[r]? = some ((tblI q k).getD r 0) := by
  unfold rowIn; rw [tab_at (by omega), if_neg (by omega), if_pos h]
theorem rowAt_self {q : List Int} {N k : Nat} (h : k < N) : (rowAt q N k)[k]? = some 0 := by
  unfold rowAt; rw [tab_at h, if_neg (by omega)]
theorem tab_self' {L : List Int} {n : Nat} (h : L.length = n) : tab n (fun j => L.getD j 0) = L := by
  apply List.ext_getElem?
  intro i
  by_cases hi : i < n
  · rw [tab_at hi]
    simp [h, hi]
  · rw [List.getElem?_eq_none (by rw [tab_len]; omega), List.getElem?_eq_none (by omega)]
theorem rowAt_all (q : List Int) (N : Nat) : rowAt q N N = tblI q N := by
  rw [← tab_self' (tblI_len q N)]
  unfold rowAt
  exact tab_congr (fun j hj => by rw [if_pos hj])

set_option maxRecDepth 100000 in
set_option maxHeartbeats 4000000 in
theorem tablesFor_any (A : Option Addr) (c : Nat) (q : List Int) (N : Nat) (w : World) (hA : IntsAt w A q) (hl : q.length ≤ 6) (HX : Hid (∀ x ∈ q, 0 ≤ x ∧ x < 64)) (HN : Hid (N = 2 ^ q.length)) :
    Calls Tryd.prog 78 #[.slice A q.length c] w fun e w' => ∃ v, e = .returned v ∧ IntSl w' w.heap.size v (tblI q N) ∧ Below w.heap.size w w' := by
  have hp := pow_range6 q.length hl
  have hpow : (2 : Int) ^ q.length = (N : Int) := by rw [HN.out]; simp
  rw [hpow] at hp
  have hN0 : 1 ≤ N := by omega
  have hN1 : N ≤ 64 := by omega
  clear hp
  have hmk := make_ints N (by omega)
  have HZ0 := hide (fun (W : World) => zeros_tabG W (lo := W.heap.size) N (Nat.le_refl _) (by omega))
  go_enter Tryd.func78, Tryd.ntmps78
  go_wp2_with fail
  clear hmk hpow
  have HS0 := hide (HZ0.out w)
  go_loopw [12] (fun i wr => ∃ (k : Nat), k ≤ N ∧ i = .int .i64 k ∧ IntSl wr w.heap.size (.slice (some ⟨w.heap.size, 0, none⟩) N N) (rowAt q N k) ∧ w.heap.size < wr.heap.size ∧ Below w.heap.size w wr) (fun i _ => N - (intOf i).toNat)
  case atStart => exact ⟨0, Nat.zero_le _, rfl, by rw [rowAt_zero]; exact HS0.out, by simp, by go_grown⟩
  case round =>
    clear HS0 HZ0
    obtain ⟨k, hk, rfl, hS, hlt0, hb⟩ := hrel
    have hsz := hb.size
    by_cases hlt : k < N
    · have hk0 : (0 : Int) ≤ k := by omega
      have hk1 : (k : Int) < N := by omega
      have hk64 : (k : Int) < 64 := by omega
      have hz := sz_bound k
      have HC := hide (fun W => sizeOf_any (k : Int) W hk0 (by omega))
      have HP0 : Hid (∀ v, partGo q (tblI q k) k (sz k) 0 = v ↔ sz k = v) := hide (fun v => Iff.rfl)
      have HCELL : Hid (cellI q (tblI q k) k = partGo q (tblI q k) k (sz k) k) := hide rfl
      generalize sz (k : Int) = z0 at *
      have hcell := hS.cellAt (rowAt_self hlt)
      have hfz := hS.frozenAt k
      have HN1 : Hid (IntSl (wr.setCell ⟨w.heap.size, k, none⟩ (.int .i64 z0)) w.heap.size (.slice (some ⟨w.heap.size, 0, none⟩) N N) (rowIn q N k z0)) := hide (by
        have := IntSl.store hS k z0
        rwa [rowAt_set] at this)
      have HB1 := hide (hb.grown (IntSl.grownSet hS k z0) hsz (fun k hk => by injection hk with hk; omega))
      have HTR := hide (tblI_range q k)
      clear hS
      go_wp2_with fail
      refine (HC.out _).mono ?_
      rintro e w3 ⟨rfl, rfl⟩
      go_wp2_with fail
      go_loopw [5] (fun pv wr => ∃ (p : Nat) (v : Int), p ≤ k ∧ pv = .int .i64 ((p : Int) + 1) ∧ 0 ≤ v ∧ v ≤ 64 ∧ Hid (partGo q (tblI q k) k z0 p = v) ∧ IntSl wr w.heap.size (.slice (some ⟨w.heap.size, 0, none⟩) N N) (rowIn q N k v) ∧ w.heap.size < wr.heap.size ∧ Below w.heap.size w wr) (fun pv _ => (66 - intOf pv).toNat)
      case atStart => exact ⟨0, z0, Nat.zero_le _, by simp, hz.1, hz.2, hide rfl, HN1.out, by simp; exact hlt0, HB1.out⟩
      case round =>
        clear HN1 HB1 hb hsz hlt0 hcell hfz
        obtain ⟨p, v, hpk, rfl, hv0, hv1, HV, hS, hlt0, hb⟩ := hrel
        have hsz := hb.size
        by_cases hpl : p < k
        · have hp0 : (0 : Int) ≤ (p : Int) + 1 := by omega
          have hp1 : (p : Int) + 1 < 64 := by omega
          have hp2 : (p : Int) + 1 ≤ k := by omega
          have HPC : Hid (((p + 1 : Nat) : Int) = (p : Int) + 1) := hide (by omega)
          cases hm : (meetI ((p : Int) + 1) k == (p : Int) + 1) with
          | false =>
            have H3 : Hid (partGo q (tblI q k) k z0 (p + 1) = v) := hide (partGo_not HV.out (by rw [HPC.out, hm]; rfl))
            have HM := hide hm
            have HS := hide hS
            clear hS hm
            go_wp2_with fail
            refine (isWithin_any _ _ _ hp0 hp1 hk0 hk64).mono ?_
            rintro e w3 ⟨rfl, rfl⟩
            rw [HM.out]
            go_wp2_with fail
            go_roundw
            case rel => exact ⟨p + 1, v, hpl, by go_num, hv0, hv1, H3, HS.out, hlt0, hb⟩
            case measure => simp [intOf]; omega
          | true =>
            cases ha : apartS ((p : Int) + 1) q with
            | false =>
              have HA := hide ha
              have H3 : Hid (partGo q (tblI q k) k z0 (p + 1) = v) := hide (partGo_not HV.out (by rw [HPC.out, ha]; simp))
              have HM := hide hm
              have HS := hide hS
              clear hS ha hm
              go_wp2_with fail
              refine (isWithin_any _ _ _ hp0 hp1 hk0 hk64).mono ?_
              rintro e w3 ⟨rfl, rfl⟩
              rw [HM.out]
              go_wp2_with fail
              refine (isApart_any _ _ _ _ _ (hA.below hb) hl HX hp0 hp1).mono ?_
              rintro e w3 ⟨rfl, rfl⟩
              rw [HA.out]
              go_wp2_with fail
              go_roundw
              case rel => exact ⟨p + 1, v, hpl, by go_num, hv0, hv1, H3, HS.out, hlt0, hb⟩
              case measure => simp [intOf]; omega
            | true =>
              have HA := hide ha
              have HM := hide hm
              obtain ⟨r, hr⟩ : ∃ r : Nat, r = k - (p + 1) := ⟨_, rfl⟩
              have hrk : r < k := by omega
              obtain ⟨y, HYD⟩ : ∃ y, Hid ((tblI q k).getD r 0 = y) := ⟨_, hide rfl⟩
              have hy0 : 0 ≤ y := by rw [← HYD.out]; exact getD_low HTR.out r
              have hy1 : y ≤ 64 := by rw [← HYD.out]; exact getD_high HTR.out r
              have HST : Hid (partGo q (tblI q k) k z0 (p + 1) = if v ≤ y + 1 then v else y + 1) := hide (partGo_yes HV.out (by rw [HPC.out]; exact hm) (by rw [HPC.out]; exact ha) (by rw [show ((k : Int) - ((p + 1 : Nat) : Int)).toNat = r from by omega]; exact HYD.out))
              have hw2 : bits .andNot .i64 (k : Int) ((p : Int) + 1) = (r : Int) := by
                rw [andNot_all' hk0 hk64 hp0 hp1, rest_of hm]
                omega
              have hcr := hS.cellAt (rowIn_low (q := q) (N := N) (v := v) hrk hlt)
              rw [HYD.out] at hcr
              have hck := hS.cellAt (rowIn_self (q := q) (v := v) hlt)
              have hfz := hS.frozenAt k
              have hr0 : (0 : Int) ≤ r := by omega
              have hr1 : (r : Int) < N := by omega
              clear ha hm hr
              by_cases hvy : v ≤ y + 1
              · have H3 : Hid (partGo q (tblI q k) k z0 (p + 1) = v) := hide (by rw [HST.out, if_pos hvy])
                have hvy2 : ¬ (y + 1 < v) := by omega
                have hw5 : IntKind.i64.wrap (y + 1) = y + 1 := IntWalk.i64_in _ (by omega)
                have HN1 : Hid (IntSl (wr.setCell ⟨w.heap.size, k, none⟩ (.int .i64 v)) w.heap.size (.slice (some ⟨w.heap.size, 0, none⟩) N N) (rowIn q N k v)) := hide (by
                  have := IntSl.store hS k v
                  rwa [rowIn_set] at this)
                have HB1 := hide (hb.grown (IntSl.grownSet hS k v) hsz (fun k hk => by injection hk with hk; omega))
                clear hS
                go_wp2_with fail
                refine (isWithin_any _ _ _ hp0 hp1 hk0 hk64).mono ?_
                rintro e w3 ⟨rfl, rfl⟩
                rw [HM.out]
                go_wp2_with fail
                refine (isApart_any _ _ _ _ _ (hA.below hb) hl HX hp0 hp1).mono ?_
                rintro e w3 ⟨rfl, rfl⟩
                rw [HA.out]
                go_wp2_with fail
                refine still_tail_drew 15 (by kernel_rfl) (by kernel_rfl) ?_
                simp only [List.take_succ_cons, List.take_zero, List.drop_succ_cons, List.drop_zero]
                repeat still_step
                refine wpStill_nil ?_
                go_wp2_with fail
                go_roundw
                case rel => exact ⟨p + 1, v, hpl, by go_num, hv0, hv1, H3, IntSl.drew HN1.out, by simp; exact hlt0, HB1.out.drew⟩
                case measure => simp [intOf]; omega
              · have H3 : Hid (partGo q (tblI q k) k z0 (p + 1) = y + 1) := hide (by rw [HST.out, if_neg hvy])
                have hvy2 : y + 1 < v := by omega
                have hw5 : IntKind.i64.wrap (y + 1) = y + 1 := IntWalk.i64_in _ (by omega)
                have HN1 : Hid (IntSl (wr.setCell ⟨w.heap.size, k, none⟩ (.int .i64 (y + 1))) w.heap.size (.slice (some ⟨w.heap.size, 0, none⟩) N N) (rowIn q N k (y + 1))) := hide (by
                  have := IntSl.store hS k (y + 1)
                  rwa [rowIn_set] at this)
                have HB1 := hide (hb.grown (IntSl.grownSet hS k (y + 1)) hsz (fun k hk => by injection hk with hk; omega))
                clear hS
                go_wp2_with fail
                refine (isWithin_any _ _ _ hp0 hp1 hk0 hk64).mono ?_
                rintro e w3 ⟨rfl, rfl⟩
                rw [HM.out]
                go_wp2_with fail
                refine (isApart_any _ _ _ _ _ (hA.below hb) hl HX hp0 hp1).mono ?_
                rintro e w3 ⟨rfl, rfl⟩
                rw [HA.out]
                go_wp2_with fail
                refine still_tail_drew 15 (by kernel_rfl) (by kernel_rfl) ?_
                simp only [List.take_succ_cons, List.take_zero, List.drop_succ_cons, List.drop_zero]
                repeat still_step
                refine wpStill_nil ?_
                go_wp2_with fail
                go_roundw
                case rel => exact ⟨p + 1, y + 1, hpl, by go_num, by omega, by omega, H3, IntSl.drew HN1.out, by simp; exact hlt0, HB1.out.drew⟩
                case measure => simp [intOf]; omega
        · obtain rfl : p = k := by omega
          have HN1 : Hid (IntSl wr w.heap.size (.slice (some ⟨w.heap.size, 0, none⟩) N N) (rowAt q N (p + 1))) := hide (by
            rw [← rowIn_done (v := v) (by rw [HCELL.out]; exact HV.out)]
            exact hS)
          clear hS
          go_wp2_with fail
          go_roundw
          case rel => exact ⟨p + 1, hlt, by go_num, HN1.out, hlt0, hb⟩
          case measure => simp [intOf]; omega
    · obtain rfl : k = N := by omega
      rw [rowAt_all] at hS
      have HS := hide hS
      clear hS
      go_wp2_with fail
      exact bodyPost_ret (results_tmp rfl _ _ _) rfl ⟨.slice (some ⟨w.heap.size, 0, none⟩) k k, rfl, HS.out, hb⟩

set_option maxHeartbeats 1000000 in
theorem implSeatsLeast_any (g : Int) (A : Option Addr) (c : Nat) (q : List Int) (w : World) (hA : IntsAt w A q) (hl : q.length ≤ 1048576) :
    Calls Tryd.prog 30 #[.int .i64 g, .slice A q.length c] w fun e w' => e = .returned (.int .i64 (seatsLeastL g q)) ∧ Below w.heap.size w w' := by
  cases hQ : quarOk g q with
  | false =>
    have HQ := hide hQ
    have HR := hide (sl_no hQ)
    clear hQ
    go_enter Tryd.func30, Tryd.ntmps30
    go_wp2_with fail
    refine (implQuarrelsValid_any _ _ _ _ _ hA hl).mono ?_
    rintro e w1 ⟨rfl, hB1⟩
    rw [HQ.out]
    go_wp2_with fail
    go_ret
    exact ⟨by rw [HR.out]; rfl, hB1⟩
  | true =>
    have HQ := hide hQ
    have hg := quarOk_g hQ
    have h0 := hg.1
    have h1 := hg.2.1
    have HX : Hid (∀ x ∈ q, 0 ≤ x ∧ x < 64) := hide (fun x hx => ⟨(quarOk_at hQ hx).1, (quarOk_at hQ hx).2.2⟩)
    have h6 : q.length ≤ 6 := by omega
    have hgn : g.toNat = q.length := by omega
    obtain ⟨i, hi⟩ : ∃ i : Nat, 2 ^ q.length = i + 1 := ⟨2 ^ q.length - 1, by have := Nat.one_le_two_pow (n := q.length); omega⟩
    have HN : Hid (i + 1 = 2 ^ q.length) := hide hi.symm
    obtain ⟨y, HY⟩ : ∃ y, Hid ((tblI q (i + 1))[i]? = some y) := ⟨_, hide (List.getElem?_eq_getElem (by rw [tblI_len]; omega))⟩
    have HR : Hid (seatsLeastL g q = y) := hide (by
      unfold seatsLeastL
      rw [if_pos hQ, hgn, hi, show i + 1 - 1 = i from rfl]
      exact getD_at HY.out)
    have hF : full g = (i : Int) := by
      unfold full
      rw [hgn]
      have : ((2 ^ q.length : Nat) : Int) = (2 : Int) ^ q.length := by simp
      omega
    have HC : Hid (∀ W, Calls Tryd.prog 79 #[.int .i64 g] W fun e w' => e = .returned (.int .i64 (i : Int)) ∧ W = w') := hide (fun W => (allGuests_any g W h0 h1).mono fun _ _ h => ⟨by rw [← hF]; exact h.1, h.2⟩)
    have hi0 : (0 : Int) ≤ i := by omega
    clear hg hQ hi hF hgn
    go_enter Tryd.func30, Tryd.ntmps30
    go_wp2_with fail
    refine (implQuarrelsValid_any _ _ _ _ _ hA hl).mono ?_
    rintro e w1 ⟨rfl, hB1⟩
    rw [HQ.out]
    go_wp2_with fail
    refine (tablesFor_any _ _ _ (i + 1) _ (hA.below hB1) h6 HX HN).mono ?_
    rintro e w4 ⟨v, rfl, hSl, hB4⟩
    obtain ⟨A4, c4, hv, hI4, -⟩ := hSl.form
    rw [tblI_len] at hv
    subst hv
    obtain ⟨bo, offo, rfl, hblo, hcy⟩ := hI4 i y HY.out
    have hb4 := next hB1 hB4
    clear hSl hI4
    go_wp2_with fail
    refine (HC.out _).mono ?_
    rintro e w5 ⟨rfl, rfl⟩
    go_wp2_with fail
    go_ret
    exact ⟨by rw [HR.out]; rfl, hb4⟩
end Go.Proofs.YtgpcbigaeodhfaaDoor
