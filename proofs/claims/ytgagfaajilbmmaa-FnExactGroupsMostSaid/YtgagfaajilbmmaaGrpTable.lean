/- GrpTable: contracts of mostGroups, groupTable, GroupsMost and SettleLeast of the program.
   Conditions: lists have at most 1048576 elements. -/
import Derived.Test.YtgagfaajilbmmaaGrpSets
import Derived.Test.YtgagfaajilbmmaaGuestPop
namespace Go.Proofs.Ytgagfaajilbmmaa
open Go.RowKit Go.ChangeShapes Go.WideShapes Go.ChangeAt Go.Deep

theorem popN_set : ∀ xs : List Int, xs.length ≤ 7 → popN (gSet xs) = nz xs
  | [], _ => popN_zero
  | x :: r, h => by
    have hl : r.length ≤ 7 := by
      rw [List.length_cons] at h
      omega
    have ih := popN_set r hl
    have hs := gSet_128 hl
    have e : gSet (x :: r) = (if (x != 0) = true then 1 else 0) + 2 * gSet r := rfl
    rw [popN_step _ (by rw [e]; split <;> omega)]
    unfold nz at *
    rw [List.countP_cons, ← ih, e]
    split
    · rw [show (1 + 2 * gSet r) / 2 = gSet r from by omega]
      omega
    · rw [show (0 + 2 * gSet r) / 2 = gSet r from by omega]
      omega
theorem gBest_yes {t : Nat → Int} {s p : Nat} {v y z : Int} (h : gBest t s p = v) (h1 : (p + 1) &&& s = p + 1) (hy : t (p + 1) = y) (hz : t (s - (p + 1)) = z) (hn : y ≠ -1) : gBest t s (p + 1) = if v ≤ y + z then y + z else v := by
  rw [gBest, if_pos ⟨h1, by rw [hy]; exact hn⟩, h, hy, hz]
theorem gBest_not {t : Nat → Int} {s p : Nat} {v : Int} (h : gBest t s p = v) (h1 : (p + 1) &&& s ≠ p + 1 ∨ t (p + 1) = -1) : gBest t s (p + 1) = v := by
  rw [gBest, if_neg (by rintro ⟨a, b⟩; rcases h1 with h1 | h1 <;> contradiction), h]

set_option maxRecDepth 100000 in
set_option maxHeartbeats 4000000 in
theorem mostGroups_any (A : Option Addr) (c : Nat) (T : List Int) (t : Nat → Int) (s : Nat) (w : World) (hA : IntsAt w A T) (hs0 : 0 < s) (hs : s < 128) (hT : s < T.length) (hTl : T.length ≤ 128) (HV : Hid (∀ p, 1 ≤ p → p < s → p &&& s = p → T[p]? = some (t p))) (HR : Hid (∀ p, p < s → -1 ≤ t p ∧ t p ≤ 7)) :
    Calls Try.prog 74 #[.slice A T.length c, .int .i64 s] w fun e w' => e = .returned (.int .i64 (gBest t s (s - 1))) ∧ Below w.heap.size w w' := by
  have hs1 : (s : Int) < T.length := by omega
  go_enter Try.func74, Try.ntmps74
  go_wp2_with fail
  go_loopw [5, 6] (fun mv pv wr => ∃ (p : Nat) (v : Int), p < s ∧ pv = .int .i64 ((p : Int) + 1) ∧ mv = .int .i64 v ∧ 1 ≤ v ∧ v ≤ 14 ∧ Hid (gBest t s p = v) ∧ Below w.heap.size w wr) (fun _ pv _ => (s + 1 - (intOf pv).toNat))
  case atStart => exact ⟨0, 1, hs0, by simp, rfl, by omega, by omega, hide rfl, Below.refl _ _⟩
  case round =>
    obtain ⟨p, v, hps, rfl, rfl, hv0, hv1, HB, hb⟩ := hrel
    have hsz := hb.size
    by_cases hlt : (p : Int) + 1 < s
    · have hpc : ((p + 1 : Nat) : Int) = (p : Int) + 1 := by omega
      have hp0 : (0 : Int) ≤ (p : Int) + 1 := by omega
      have hp1 : (p : Int) + 1 < T.length := by omega
      by_cases hin : (p + 1) &&& s = p + 1
      · have HC : Hid (∀ W, Calls Try.prog 72 #[.int .i64 ((p : Int) + 1), .int .i64 s] W fun e w' => e = .returned (.bool true) ∧ W = w') := hide (fun W => by
          rw [← hpc]
          exact isWithin_n (p + 1) s W (by omega) hs true (hide (decide_eq_true hin)))
        have hy := HV.out (p + 1) (by omega) (by omega) hin
        obtain ⟨y, HY⟩ : ∃ y, Hid (t (p + 1) = y) := ⟨_, hide rfl⟩
        rw [HY.out] at hy
        have hyr := HR.out (p + 1) (by omega)
        rw [HY.out] at hyr
        obtain ⟨b, off, rfl, hbl, hcy⟩ := (hA.below hb) (p + 1) y hy
        by_cases hm : y = -1
        · subst hm
          have H3 := hide (gBest_not HB.out (.inr HY.out))
          clear hy hpc hin
          go_wp2_with fail
          refine (HC.out _).mono ?_
          rintro e w3 ⟨rfl, rfl⟩
          go_wp2_with fail
          go_roundw
          case rel => exact ⟨p + 1, v, by omega, by go_num, rfl, hv0, hv1, H3, hb⟩
          case measure => simp [intOf]; omega
        · have hne : (y != -1) = true := by simpa using hm
          have hrin := rest_within s (Nat.le_refl _) hin
          have hz := HV.out (s - (p + 1)) (by omega) (by omega) hrin
          obtain ⟨z, HZ⟩ : ∃ z, Hid (t (s - (p + 1)) = z) := ⟨_, hide rfl⟩
          rw [HZ.out] at hz
          have hzr := HR.out (s - (p + 1)) (by omega)
          rw [HZ.out] at hzr
          obtain ⟨b', off', e', -, hcz⟩ := (hA.below hb) (s - (p + 1)) z hz
          injection e' with e'
          injection e' with e1 e2
          subst e1 e2
          have hw2 : bits .andNot .i64 (s : Int) ((p : Int) + 1) = ((s - (p + 1) : Nat) : Int) := by
            rw [← hpc, andNot_n hs (by omega)]
            rw [Nat.and_comm, hin]
          obtain ⟨r, hr⟩ : ∃ r : Nat, r = s - (p + 1) := ⟨_, rfl⟩
          rw [← hr] at hw2 hcz
          have hr0 : (0 : Int) ≤ r := by omega
          have hr1 : (r : Int) < T.length := by omega
          have HST := hide (gBest_yes HB.out hin HY.out HZ.out hm)
          have hw5 : IntKind.i64.wrap (y + z) = y + z := IntWalk.i64_in _ (by omega)
          clear hy hz hpc hin hm hrin hr
          by_cases hvy : v ≤ y + z
          · have H3 : Hid (gBest t s (p + 1) = y + z) := hide (by rw [HST.out, if_pos hvy])
            go_wp2_with fail
            refine (HC.out _).mono ?_
            rintro e w3 ⟨rfl, rfl⟩
            go_wp2_with fail
            go_quiet (fail)
            go_wp2_with fail
            go_roundw
            case rel => exact ⟨p + 1, y + z, by omega, by go_num, by rw [show (if v < y + z then y + z else v) = y + z from by split <;> omega], by omega, by omega, H3, below_drewN hb _⟩
            case measure => simp [intOf]; omega
          · have H3 : Hid (gBest t s (p + 1) = v) := hide (by rw [HST.out, if_neg hvy])
            go_wp2_with fail
            refine (HC.out _).mono ?_
            rintro e w3 ⟨rfl, rfl⟩
            go_wp2_with fail
            go_quiet (fail)
            go_wp2_with fail
            go_roundw
            case rel => exact ⟨p + 1, v, by omega, by go_num, by rw [show (if v < y + z then y + z else v) = v from by split <;> omega], by omega, by omega, H3, below_drewN hb _⟩
            case measure => simp [intOf]; omega
      · have HC : Hid (∀ W, Calls Try.prog 72 #[.int .i64 ((p : Int) + 1), .int .i64 s] W fun e w' => e = .returned (.bool false) ∧ W = w') := hide (fun W => by
          rw [← hpc]
          exact isWithin_n (p + 1) s W (by omega) hs false (hide (decide_eq_false hin)))
        have H3 := hide (gBest_not HB.out (.inl hin))
        clear hpc hin
        go_wp2_with fail
        refine (HC.out _).mono ?_
        rintro e w3 ⟨rfl, rfl⟩
        go_wp2_with fail
        go_roundw
        case rel => exact ⟨p + 1, v, by omega, by go_num, rfl, hv0, hv1, H3, hb⟩
        case measure => simp [intOf]; omega
    · have H3 : Hid (gBest t s (s - 1) = v) := hide (by rw [show s - 1 = p from by omega]; exact HB.out)
      go_wp2_with fail
      go_ret
      exact ⟨by rw [H3.out]; rfl, hb⟩

/-- The table of groups, up to a set. -/
def grpTo (xs : List Int) (N k : Nat) : List Int := tab N (fun j => if j < k then (if j &&& gSet xs = j then gV xs j else -1) else 0)
theorem grpTo_len (xs : List Int) (N k : Nat) : (grpTo xs N k).length = N := tab_len _ _
theorem grpTo_one (xs : List Int) (N : Nat) : grpTo xs N 1 = tab N (fun _ => 0) := by
  unfold grpTo
  refine tab_congr (fun j _ => ?_)
  by_cases e : j < 1
  · obtain rfl : j = 0 := by omega
    rw [if_pos e, if_pos (by simp), gV_zero]
  · rw [if_neg e]
theorem grpTo_set {xs : List Int} {N k : Nat} {v : Int} (h : (if k &&& gSet xs = k then gV xs k else -1) = v) : (grpTo xs N k).set k v = grpTo xs N (k + 1) := by
  unfold grpTo
  rw [tab_set]
  refine tab_congr (fun j _ => ?_)
  by_cases e : j = k
  · subst e
    rw [if_pos rfl, if_pos (by omega), h]
  · rw [if_neg e]
    by_cases e2 : j < k
    · have e3 : j < k + 1 := by omega
      rw [if_pos e2, if_pos e3]
    · have e3 : ¬ j < k + 1 := by omega
      rw [if_neg e2, if_neg e3]
theorem grpTo_at {xs : List Int} {N k j : Nat} {v : Int} (hj : j < k) (hk : k < N) (h : j &&& gSet xs = j) : ((grpTo xs N k).set k v)[j]? = some (gV xs j) := by
  rw [List.getElem?_set_ne (by omega)]
  unfold grpTo
  rw [tab_at (by omega), if_pos hj, if_pos h]
theorem grpTo_all {xs : List Int} {N j : Nat} (hj : j < N) (h : j &&& gSet xs = j) : (grpTo xs N N)[j]? = some (gV xs j) := by
  unfold grpTo
  rw [tab_at hj, if_pos hj, if_pos h]
theorem gV_7 {xs : List Int} (h : xs.length ≤ 7) {s : Nat} (hs : s < 2 ^ xs.length) : -1 ≤ gV xs s ∧ gV xs s ≤ 7 := by
  have := gV_le hs
  omega

set_option maxRecDepth 100000 in
set_option maxHeartbeats 4000000 in
theorem groupTable_any (A : Option Addr) (c : Nat) (xs : List Int) (N : Nat) (w : World) (hA : IntsAt w A xs) (hok : Hid (owedOk xs = true)) (HN : Hid (N = gSet xs + 1)) :
    Calls Try.prog 53 #[.slice A xs.length c] w fun e w' => ∃ g, e = .returned (.slice (some ⟨g, 0, none⟩) N N) ∧ IntSl w' w.heap.size (.slice (some ⟨g, 0, none⟩) N N) (grpTo xs N N) ∧ Below w.heap.size w w' := by
  have h7 := owedOk_len hok.out
  have hg128 := gSet_128 h7
  have hN : N ≤ 128 := by rw [HN.out]; omega
  have hN1 : 1 ≤ N := by rw [HN.out]; omega
  have hN2 : (N : Int) = (gSet xs : Int) + 1 := by rw [HN.out]; omega
  have HO : Hid (∀ W, IntsAt W A xs → Calls Try.prog 54 #[.slice A xs.length c] W fun e w' => e = .returned (.int .i64 ((N : Int) - 1)) ∧ W = w') := hide (fun W h => by
    rw [show (N : Int) - 1 = openS xs from by rw [openS_set]; omega]
    exact openSet_any A c xs W h h7)
  have HG : Hid (gSet xs = N - 1) := hide (by rw [HN.out]; omega)
  have HLT : Hid (∀ s, s < N → s < 2 ^ xs.length) := hide (fun s hs => by have := gSet_lt xs; rw [HN.out] at hs; omega)
  have HRNG : Hid (∀ y ∈ xs, -9999 ≤ y ∧ y ≤ 9999) := hide (FInv.start hok.out).rng
  have hmk := make_ints N (by omega)
  have HZ0 := hide (fun (W : World) (hW : w.heap.size ≤ W.heap.size) => zeros_tabG W (lo := w.heap.size) N hW (by omega))
  have hnn : (N : Int) - 1 + 1 = N := by omega
  clear hN2 hg128
  go_enter Try.func53, Try.ntmps53
  go_wp2_with fail
  refine (HO.out _ hA).mono ?_
  rintro e w1 ⟨rfl, rfl⟩
  go_wp2_with fail
  clear hmk
  have HS0 := hide (HZ0.out w (Nat.le_refl _))
  have HB0 : Hid (Below w.heap.size w (w.alloc (.cells (madeCells #[.int .i64 0] N) 3))) := hide (by go_grown)
  obtain ⟨wo, hwo⟩ : ∃ wo : Nat, wo = w.heap.size := ⟨_, rfl⟩
  have hz0 : wo < (w.alloc (.cells (madeCells #[.int .i64 0] N) 3)).heap.size := by rw [hwo]; simp
  rw [← hwo] at HS0 ⊢
  have HWO := hide hwo
  clear hwo
  go_loopw [5] (fun i wr => ∃ (k : Nat), 1 ≤ k ∧ k ≤ N ∧ i = .int .i64 k ∧ IntSl wr w.heap.size (.slice (some ⟨wo, 0, none⟩) N N) (grpTo xs N k) ∧ wo < wr.heap.size ∧ Below w.heap.size w wr) (fun i _ => N - (intOf i).toNat)
  case atStart => exact ⟨1, by omega, hN1, rfl, by rw [grpTo_one, ← HWO.out]; exact HS0.out, hz0, HB0.out⟩
  case round =>
    clear HS0 HB0 hz0 HZ0
    obtain ⟨k, hk1, hk, rfl, hS, hlt0, hb⟩ := hrel
    have hsz := hb.size
    by_cases hlt : k < N
    · have hk0 : (0 : Int) ≤ k := by omega
      have hk2 : (k : Int) < N := by omega
      have hk3 : (k : Int) ≤ (N : Int) - 1 := by omega
      have hck := hS.cellAt (List.getElem?_eq_getElem (show k < (grpTo xs N k).length by rw [grpTo_len]; exact hlt))
      have hfz := hS.frozenAt k
      have hS1 : IntSl (wr.setCell ⟨wo, k, none⟩ (.int .i64 (-1))) w.heap.size (.slice (some ⟨wo, 0, none⟩) N N) ((grpTo xs N k).set k (-1)) := IntSl.store hS k (-1)
      have hg1 := IntSl.grownSet hS k (-1)
      have HWG := hide (World.ownsRow.lt hS wo rfl).1
      have hb1 : Below w.heap.size w (wr.setCell ⟨wo, k, none⟩ (.int .i64 (-1))) := hb.grown hg1 hsz (fun j hj => by injection hj with hj; have := HWG.out; omega)
      have HS1 := hide hS1
      have HB1 := hide hb1
      have hlt1 : wo < (wr.setCell ⟨wo, k, none⟩ (.int .i64 (-1))).heap.size := by simp; exact hlt0
      obtain ⟨v0, hv0⟩ : ∃ v0, (grpTo xs N k)[k]'(by rw [grpTo_len]; exact hlt) = v0 := ⟨_, rfl⟩
      rw [hv0] at hck
      clear hv0 hS hS1 hg1 hb1
      by_cases hin : k &&& gSet xs = k
      · have HC : Hid (∀ W, Calls Try.prog 72 #[.int .i64 (k : Int), .int .i64 ((N : Int) - 1)] W fun e w' => e = .returned (.bool true) ∧ W = w') := hide (fun W => by
          rw [show (N : Int) - 1 = ((N - 1 : Nat) : Int) from by omega, ← HG.out]
          exact isWithin_n k (gSet xs) W (by omega) (gSet_128 h7) true (hide (decide_eq_true hin)))
        have HIN := hide hin
        have hsw := sumW_part (s := k) HRNG.out h7
        have HSW := hide hsw
        clear hin hsw
        by_cases hz : sumL (gSub xs k) = 0
        · have HZ : Hid (sumW (gPart xs k) = 0) := hide (by rw [HSW.out, hz])
          have HVK : Hid ((if k &&& gSet xs = k then gV xs k else -1) = gBest (gV xs) k (k - 1)) := hide (by rw [if_pos HIN.out, gV_eq xs (by omega), if_pos hz])
          have HAT : Hid (∀ p, 1 ≤ p → p < k → p &&& k = p → ((grpTo xs N k).set k (-1))[p]? = some (gV xs p)) := hide (fun p h1 h2 h3 => grpTo_at h2 hlt (within_trans h3 HIN.out))
          have HRR : Hid (∀ p, p < k → -1 ≤ gV xs p ∧ gV xs p ≤ 7) := hide (fun p hp => gV_7 h7 (HLT.out p (by omega)))
          have HLN : Hid (((grpTo xs N k).set k (-1)).length = N) := hide (by rw [List.length_set, grpTo_len])
          clear hz HSW
          go_wp2_with fail
          refine (HC.out _).mono ?_
          rintro e w3 ⟨rfl, rfl⟩
          go_wp2_with fail
          refine (owedIn_any A c xs k _ (hA.below HB1.out) h7 (by omega)).mono ?_
          rintro e w3 ⟨g3, rfl, hS3, hB3⟩
          have hb3 := next HB1.out hB3
          have HS3 := hide (IntSl.below HS1.out hB3)
          have hl3 := hB3.size
          have hpl := gPart_len xs k
          have hI3 := hS3.ints
          go_wp2_with fail
          have hsum := sumOf_any (some ⟨g3, 0, none⟩) xs.length (gPart xs k) w3 hI3 (by rw [hpl]; omega)
          rw [hpl, HZ.out] at hsum
          refine hsum.mono ?_
          rintro e w4 ⟨rfl, rfl⟩
          clear hsum hpl hI3 hS3 hB3
          go_wp2_with fail
          have hmg := mostGroups_any (some ⟨wo, 0, none⟩) N ((grpTo xs N k).set k (-1)) (gV xs) k w3 HS3.out.ints (by omega) (by omega) (by rw [HLN.out]; exact hlt) (by rw [HLN.out]; exact hN) HAT HRR
          rw [HLN.out] at hmg
          refine hmg.mono ?_
          rintro e w5 ⟨rfl, hB5⟩
          clear hmg
          have hS5 := IntSl.below HS3.out hB5
          have hb5 := next hb3 hB5
          have hsz5 := hb5.size
          have hck5 := hS5.cellAt (List.getElem?_set_self (a := (-1 : Int)) (show k < (grpTo xs N k).length by rw [grpTo_len]; exact hlt))
          have hfz5 := hS5.frozenAt k
          obtain ⟨v, HV⟩ : ∃ v, Hid (gBest (gV xs) k (k - 1) = v) := ⟨_, hide rfl⟩
          rw [HV.out]
          have HN1 : Hid (IntSl (w5.setCell ⟨wo, k, none⟩ (.int .i64 v)) w.heap.size (.slice (some ⟨wo, 0, none⟩) N N) (grpTo xs N (k + 1))) := hide (by
            have := IntSl.store hS5 k v
            rw [List.set_set, grpTo_set (by rw [HVK.out, HV.out])] at this
            exact this)
          have hwo5 := (World.ownsRow.lt hS5 wo rfl)
          have HB5 := hide (hb5.grown (IntSl.grownSet hS5 k v) hsz5 (fun j hj => by injection hj with hj; have := HWG.out; omega))
          have hlt5 : wo < w5.heap.size := hwo5.2
          clear hS5 hwo5
          go_wp2_with fail
          go_roundw
          case rel => exact ⟨k + 1, by omega, hlt, by go_num, HN1.out, by simp; exact hlt5, HB5.out⟩
          case measure => simp [intOf]; omega
        · have hzb : (sumL (gSub xs k) == 0) = false := by simpa using hz
          have HVK : Hid ((if k &&& gSet xs = k then gV xs k else -1) = -1) := hide (by rw [if_pos HIN.out, gV_none hz])
          obtain ⟨sm, HSM⟩ : ∃ sm, Hid (sumL (gSub xs k) = sm) := ⟨_, hide rfl⟩
          rw [HSM.out] at hzb
          clear hz
          go_wp2_with fail
          refine (HC.out _).mono ?_
          rintro e w3 ⟨rfl, rfl⟩
          go_wp2_with fail
          refine (owedIn_any A c xs k _ (hA.below HB1.out) h7 (by omega)).mono ?_
          rintro e w3 ⟨g3, rfl, hS3, hB3⟩
          have hb3 := next HB1.out hB3
          have HS3 := hide (IntSl.below HS1.out hB3)
          have hl3 := hB3.size
          have hpl := gPart_len xs k
          have hI3 := hS3.ints
          go_wp2_with fail
          have hsum := sumOf_any (some ⟨g3, 0, none⟩) xs.length (gPart xs k) w3 hI3 (by rw [hpl]; omega)
          rw [hpl, HSW.out, HSM.out] at hsum
          refine hsum.mono ?_
          rintro e w4 ⟨rfl, rfl⟩
          have HN1 : Hid (IntSl w3 w.heap.size (.slice (some ⟨wo, 0, none⟩) N N) (grpTo xs N (k + 1))) := hide (by
            rw [← grpTo_set HVK.out]
            exact HS3.out)
          have hlt3 : wo < w3.heap.size := by omega
          clear hsum hpl hI3 hS3 hB3
          go_wp2_with fail
          go_roundw
          case rel => exact ⟨k + 1, by omega, hlt, by go_num, HN1.out, hlt3, hb3⟩
          case measure => simp [intOf]; omega
      · have HC : Hid (∀ W, Calls Try.prog 72 #[.int .i64 (k : Int), .int .i64 ((N : Int) - 1)] W fun e w' => e = .returned (.bool false) ∧ W = w') := hide (fun W => by
          rw [show (N : Int) - 1 = ((N - 1 : Nat) : Int) from by omega, ← HG.out]
          exact isWithin_n k (gSet xs) W (by omega) (gSet_128 h7) false (hide (decide_eq_false hin)))
        have HN1 : Hid (IntSl (wr.setCell ⟨wo, k, none⟩ (.int .i64 (-1))) w.heap.size (.slice (some ⟨wo, 0, none⟩) N N) (grpTo xs N (k + 1))) := hide (by
          rw [← grpTo_set (v := -1) (by rw [if_neg hin])]
          exact HS1.out)
        clear hin
        go_wp2_with fail
        refine (HC.out _).mono ?_
        rintro e w3 ⟨rfl, rfl⟩
        go_wp2_with fail
        go_roundw
        case rel => exact ⟨k + 1, by omega, hlt, by go_num, HN1.out, hlt1, HB1.out⟩
        case measure => simp [intOf]; omega
    · obtain rfl : k = N := by omega
      have HS := hide hS
      clear hS
      have hk4 : ¬ ((k : Int) ≤ (k : Int) - 1) := by omega
      go_wp2_with fail
      exact bodyPost_ret (results_tmp rfl _ _ _) rfl ⟨_, rfl, HS.out, hb⟩
end Go.Proofs.Ytgagfaajilbmmaa
