/- GrpTable: contracts of mostGroups, groupTable, GroupsMost and SettleLeast of the program.
   Conditions: lists have at most 1048576 elements.
   GrpImpl: contracts of GroupsMost, SettleLeast, firstGroup and SettleBest of the program.
   Conditions: lists have at most 1048576 elements. -/
import Derived.Test.YtgagfaajilbmmaaDoorGrpSets
import Derived.Test.YtgagfaajilbmmaaDoorGuestMath
import Derived.Test.YtgagfaajilbmmaaDoorSpreadN
namespace Go.Proofs.YtgagfaajilbmmaaDoor
open Go.RowKit Go.ChangeShapes Go.WideShapes Go.ChangeAt Go.Deep

theorem popN_set : ∀ xs : List Int, xs.length ≤ 7 → popN (gSet xs) = nz xs
  | [], _ => popN_zero
  | x :: r, h => by
    have hl : r.length ≤ 7 := by
      rw [List.length_cons] at h
      omega
    have ih := popN_set r hl
    have hs := gSet_128 hl
    have e : gSet (x :: r) = (if (x != 0) = true then 1 else 0) + 2 * gSet r := rfl
    rw [popN_step _ (by rw [e]; split <;> omega)]
    unfold nz at *
    rw [List.countP_cons, ← ih, e]
    split
    · rw [show (1 + 2 * gSet r) / 2 = gSet r from by omega]
      omega
    · rw [show (0 + 2 * gSet r) / 2 = gSet r from by omega]
      omega
theorem gBest_yes {t : Nat → Int} {s p : Nat} {v y z : Int} (h : gBest t s p = v) (h1 : (p + 1) &&& s = p + 1) (hy : t (p + 1) = y) (hz : t (s - (p + 1)) = z) (hn : y ≠ -1) : gBest t s (p + 1) = if v ≤ y + z then y + z else v := by
  rw [gBest, if_pos ⟨h1, by rw [hy]; exact hn⟩, h, hy, hz]
theorem gBest_not {t : Nat → Int} {s p : Nat} {v : Int} (h : gBest t s p = v) (h1 : (p + 1) &&& s ≠ p + 1 ∨ t (p + 1) = -1) : gBest t s (p + 1) = v := by
  rw [gBest, if_neg (by rintro ⟨a, b⟩; rcases h1 with h1 | h1 <;> contradiction), h]

set_option maxRecDepth 100000 in
set_option maxHeartbeats 4000000 in
theorem mostGroups_any (A : Option Addr) (c : Nat) (T : List Int) (t : Nat → Int) (s : Nat) (w : World) (hA : IntsAt w A T) (hs0 : 0 < s) (hs : s < 128) (hT : s < T.length) (hTl : T.length ≤ 128) (HV : Hid (∀ p, 1 ≤ p → p < s → p &&& s = p → T[p]? = some (t p))) (HR : Hid (∀ p, p < s → -1 ≤ t p ∧ t p ≤ 7)) :
    Calls Tryd.prog 116 #[.slice A T.length c, .int .i64 s] w fun e w' => e = .returned (.int .i64 (gBest t s (s - 1))) ∧ Below w.heap.size w w' := by
  have hs1 : (s : Int) < T.length := by omega
  go_enter Tryd.func116, Tryd.ntmps116
  go_wp2_with fail
  go_loopw [5, 6] (fun mv pv wr => ∃ (p : Nat) (v : Int), p < s ∧ pv = .int .i64 ((p : Int) + 1) ∧ mv = .int .i64 v ∧ 1 ≤ v ∧ v ≤ 14 ∧ Hid (gBest t s p = v) ∧ Below w.heap.size w wr) (fun _ pv _ => (s + 1 - (intOf pv).toNat))
  case atStart => exact ⟨0, 1, hs0, by simp, rfl, by omega, by omega, hide rfl, Below.refl _ _⟩
  case round =>
    obtain ⟨p, v, hps, rfl, rfl, hv0, hv1, HB, hb⟩ := hrel
    have hsz := hb.size
    by_cases hlt : (p : Int) + 1 < s
    · have hpc : ((p + 1 : Nat) : Int) = (p : Int) + 1 := by omega
      have hp0 : (0 : Int) ≤ (p : Int) + 1 := by omega
      have hp1 : (p : Int) + 1 < T.length := by omega
      by_cases hin : (p + 1) &&& s = p + 1
      · have HC : Hid (∀ W, Calls Tryd.prog 115 #[.int .i64 ((p : Int) + 1), .int .i64 s] W fun e w' => e = .returned (.bool true) ∧ W = w') := hide (fun W => by
          rw [← hpc]
          exact isWithin_n (p + 1) s W (by omega) hs true (hide (decide_eq_true hin)))
        have hy := HV.out (p + 1) (by omega) (by omega) hin
        obtain ⟨y, HY⟩ : ∃ y, Hid (t (p + 1) = y) := ⟨_, hide rfl⟩
        rw [HY.out] at hy
        have hyr := HR.out (p + 1) (by omega)
        rw [HY.out] at hyr
        obtain ⟨b, off, rfl, hbl, hcy⟩ := (hA.below hb) (p + 1) y hy
        by_cases hm : y = -1
        · subst hm
          have H3 := hide (gBest_not HB.out (.inr HY.out))
          clear hy hpc hin
          go_wp2_with fail
          refine (HC.out _).mono ?_
          rintro e w3 ⟨rfl, rfl⟩
          go_wp2_with fail
          go_roundw
          case rel => exact ⟨p + 1, v, by omega, by go_num, rfl, hv0, hv1, H3, hb⟩
          case measure => simp [intOf]; omega
        · have hne : (y != -1) = true := by simpa using hm
          have hrin := rest_within s (Nat.le_refl _) hin
          have hz := HV.out (s - (p + 1)) (by omega) (by omega) hrin
          obtain ⟨z, HZ⟩ : ∃ z, Hid (t (s - (p + 1)) = z) := ⟨_, hide rfl⟩
          rw [HZ.out] at hz
          have hzr := HR.out (s - (p + 1)) (by omega)
          rw [HZ.out] at hzr
          obtain ⟨b', off', e', -, hcz⟩ := (hA.below hb) (s - (p + 1)) z hz
          injection e' with e'
          injection e' with e1 e2
          subst e1 e2
          have hw2 : bits .andNot .i64 (s : Int) ((p : Int) + 1) = ((s - (p + 1) : Nat) : Int) := by
            rw [← hpc, andNot_n hs (by omega)]
            rw [Nat.and_comm, hin]
          obtain ⟨r, hr⟩ : ∃ r : Nat, r = s - (p + 1) := ⟨_, rfl⟩
          rw [← hr] at hw2 hcz
          have hr0 : (0 : Int) ≤ r := by omega
          have hr1 : (r : Int) < T.length := by omega
          have HST := hide (gBest_yes HB.out hin HY.out HZ.out hm)
          have hw5 : IntKind.i64.wrap (y + z) = y + z := IntWalk.i64_in _ (by omega)
          clear hy hz hpc hin hm hrin hr
          by_cases hvy : v ≤ y + z
          · have H3 : Hid (gBest t s (p + 1) = y + z) := hide (by rw [HST.out, if_pos hvy])
            go_wp2_with fail
            refine (HC.out _).mono ?_
            rintro e w3 ⟨rfl, rfl⟩
            go_wp2_with fail
            go_quiet (fail)
            go_wp2_with fail
            go_roundw
            case rel => exact ⟨p + 1, y + z, by omega, by go_num, by rw [show (if v < y + z then y + z else v) = y + z from by split <;> omega], by omega, by omega, H3, below_drewN hb _⟩
            case measure => simp [intOf]; omega
          · have H3 : Hid (gBest t s (p + 1) = v) := hide (by rw [HST.out, if_neg hvy])
            go_wp2_with fail
            refine (HC.out _).mono ?_
            rintro e w3 ⟨rfl, rfl⟩
            go_wp2_with fail
            go_quiet (fail)
            go_wp2_with fail
            go_roundw
            case rel => exact ⟨p + 1, v, by omega, by go_num, by rw [show (if v < y + z then y + z else v) = v from by split <;> omega], by omega, by omega, H3, below_drewN hb _⟩
            case measure => simp [intOf]; omega
      · have HC : Hid (∀ W, Calls Tryd.prog 115 #[.int .i64 ((p : Int) + 1), .int .i64 s] W fun e w' => e = .returned (.bool false) ∧ W = w') := hide (fun W => by
          rw [← hpc]
          exact isWithin_n (p + 1) s W (by omega) hs false (hide (decide_eq_false hin)))
        have H3 := hide (gBest_not HB.out (.inl hin))
        clear hpc hin
        go_wp2_with fail
        refine (HC.out _).mono ?_
        rintro e w3 ⟨rfl, rfl⟩
        go_wp2_with fail
        go_roundw
        case rel => exact ⟨p + 1, v, by omega, by go_num, rfl, hv0, hv1, H3, hb⟩
        case measure => simp [intOf]; omega
    · have H3 : Hid (gBest t s (s - 1) = v) := hide (by rw [show s - 1 = p from by omega]; exact HB.out)
      go_wp2_with fail
      go_ret
      exact ⟨by rw [H3.out]; rfl, hb⟩

/-- The table of groups, up to a set. -/
def grpTo (xs : List Int) (N k : Nat) : List Int := tab N (fun j => if j < k then (if j &&& gSet xs = j then gV xs j else -1) else 0)
theorem grpTo_len (xs : List Int) (N k : Nat) : (grpTo xs N k).length = N := tab_len _ _
theorem grpTo_one (xs : List Int) (N : Nat) : grpTo xs N 1 = tab N (fun _ => 0) := by
  unfold grpTo
  refine tab_congr (fun j _ => ?_)
  by_cases e : j < 1
  · obtain rfl : j = 0 := by omega
    rw [if_pos e, if_pos (by simp), gV_zero]
  · rw [if_neg e]
theorem grpTo_set {xs : List Int} {N k : Nat} {v : Int} (h : (if k &&& gSet xs = k then gV xs k else -1) = v) : (grpTo xs N k).set k v = grpTo xs N (k + 1) := by
  unfold grpTo
  rw [tab_set]
  refine tab_congr (fun j _ => ?_)
  by_cases e : j = k
  · subst e
    rw [if_pos rfl, if_pos (by omega), h]
  · rw [if_neg e]
    by_cases e2 : j < k
    · have e3 : j < k + 1 := by omega
      rw [if_pos e2, if_pos e3]
    · have e3 : ¬ j < k + 1 := by omega
      rw [if_neg e2, if_neg e3]
theorem grpTo_at {xs : List Int} {N k j : Nat} {v : Int} (hj : j < k) (hk : k < N) (h : j &&& gSet xs = j) : ((grpTo xs N k).set k v)[j]? = some (gV xs j) := by
  rw [List.getElem?_set_ne (by omega)]
  unfold grpTo
  rw [tab_at (by omega), if_pos hj, if_pos h]
theorem grpTo_all {xs : List Int} {N j : Nat} (hj : j < N) (h : j &&& gSet xs = j) : (grpTo xs N N)[j]? = some (gV xs j) := by
  unfold grpTo
  rw [tab_at hj, if_pos hj, if_pos h]
theorem gV_7 {xs : List Int} (h : xs.length ≤ 7) {s : Nat} (hs : s < 2 ^ xs.length) : -1 ≤ gV xs s ∧ gV xs s ≤ 7 := by
  have := gV_le hs
  omega

set_option maxRecDepth 100000 in
set_option maxHeartbeats 4000000 in
theorem groupTable_any (A : Option Addr) (c : Nat) (xs : List Int) (N : Nat) (w : World) (hA : IntsAt w A xs) (hok : Hid (owedOk xs = true)) (HN : Hid (N = gSet xs + 1)) :
    Calls Tryd.prog 89 #[.slice A xs.length c] w fun e w' => ∃ g, e = .returned (.slice (some ⟨g, 0, none⟩) N N) ∧ IntSl w' w.heap.size (.slice (some ⟨g, 0, none⟩) N N) (grpTo xs N N) ∧ Below w.heap.size w w' := by
  have h7 := owedOk_len hok.out
  have hg128 := gSet_128 h7
  have hN : N ≤ 128 := by rw [HN.out]; omega
  have hN1 : 1 ≤ N := by rw [HN.out]; omega
  have hN2 : (N : Int) = (gSet xs : Int) + 1 := by rw [HN.out]; omega
  have HO : Hid (∀ W, IntsAt W A xs → Calls Tryd.prog 86 #[.slice A xs.length c] W fun e w' => e = .returned (.int .i64 ((N : Int) - 1)) ∧ W = w') := hide (fun W h => by
    rw [show (N : Int) - 1 = openS xs from by rw [openS_set]; omega]
    exact openSet_any A c xs W h h7)
  have HG : Hid (gSet xs = N - 1) := hide (by rw [HN.out]; omega)
  have HLT : Hid (∀ s, s < N → s < 2 ^ xs.length) := hide (fun s hs => by have := gSet_lt xs; rw [HN.out] at hs; omega)
  have HRNG : Hid (∀ y ∈ xs, -9999 ≤ y ∧ y ≤ 9999) := hide (FInv.start hok.out).rng
  have hmk := make_ints N (by omega)
  have HZ0 := hide (fun (W : World) (hW : w.heap.size ≤ W.heap.size) => zeros_tabG W (lo := w.heap.size) N hW (by omega))
  have hnn : (N : Int) - 1 + 1 = N := by omega
  clear hN2 hg128
  go_enter Tryd.func89, Tryd.ntmps89
  go_wp2_with fail
  refine (HO.out _ hA).mono ?_
  rintro e w1 ⟨rfl, rfl⟩
  go_wp2_with fail
  clear hmk
  have HS0 := hide (HZ0.out w (Nat.le_refl _))
  have HB0 : Hid (Below w.heap.size w (w.alloc (.cells (madeCells #[.int .i64 0] N) 3))) := hide (by go_grown)
  obtain ⟨wo, hwo⟩ : ∃ wo : Nat, wo = w.heap.size := ⟨_, rfl⟩
  have hz0 : wo < (w.alloc (.cells (madeCells #[.int .i64 0] N) 3)).heap.size := by rw [hwo]; simp
  rw [← hwo] at HS0 ⊢
  have HWO := hide hwo
  clear hwo
  go_loopw [5] (fun i wr => ∃ (k : Nat), 1 ≤ k ∧ k ≤ N ∧ i = .int .i64 k ∧ IntSl wr w.heap.size (.slice (some ⟨wo, 0, none⟩) N N) (grpTo xs N k) ∧ wo < wr.heap.size ∧ Below w.heap.size w wr) (fun i _ => N - (intOf i).toNat)
  case atStart => exact ⟨1, by omega, hN1, rfl, by rw [grpTo_one, ← HWO.out]; exact HS0.out, hz0, HB0.out⟩
  case round =>
    clear HS0 HB0 hz0 HZ0
    obtain ⟨k, hk1, hk, rfl, hS, hlt0, hb⟩ := hrel
    have hsz := hb.size
    by_cases hlt : k < N
    · have hk0 : (0 : Int) ≤ k := by omega
      have hk2 : (k : Int) < N := by omega
      have hk3 : (k : Int) ≤ (N : Int) - 1 := by omega
      have hck := hS.cellAt (List.getElem?_eq_getElem (show k < (grpTo xs N k).length by rw [grpTo_len]; exact hlt))
      have hfz := hS.frozenAt k
      have hS1 : IntSl (wr.setCell ⟨wo, k, none⟩ (.int .i64 (-1))) w.heap.size (.slice (some ⟨wo, 0, none⟩) N N) ((grpTo xs N k).set k (-1)) := IntSl.store hS k (-1)
      have hg1 := IntSl.grownSet hS k (-1)
      have HWG := hide (World.ownsRow.lt hS wo rfl).1
      have hb1 : Below w.heap.size w (wr.setCell ⟨wo, k, none⟩ (.int .i64 (-1))) := hb.grown hg1 hsz (fun j hj => by injection hj with hj; have := HWG.out; omega)
      have HS1 := hide hS1
      have HB1 := hide hb1
      have hlt1 : wo < (wr.setCell ⟨wo, k, none⟩ (.int .i64 (-1))).heap.size := by simp; exact hlt0
      obtain ⟨v0, hv0⟩ : ∃ v0, (grpTo xs N k)[k]'(by rw [grpTo_len]; exact hlt) = v0 := ⟨_, rfl⟩
      rw [hv0] at hck
      clear hv0 hS hS1 hg1 hb1
      by_cases hin : k &&& gSet xs = k
      · have HC : Hid (∀ W, Calls Tryd.prog 115 #[.int .i64 (k : Int), .int .i64 ((N : Int) - 1)] W fun e w' => e = .returned (.bool true) ∧ W = w') := hide (fun W => by
          rw [show (N : Int) - 1 = ((N - 1 : Nat) : Int) from by omega, ← HG.out]
          exact isWithin_n k (gSet xs) W (by omega) (gSet_128 h7) true (hide (decide_eq_true hin)))
        have HIN := hide hin
        have hsw := sumW_part (s := k) HRNG.out h7
        have HSW := hide hsw
        clear hin hsw
        by_cases hz : sumL (gSub xs k) = 0
        · have HZ : Hid (sumW (gPart xs k) = 0) := hide (by rw [HSW.out, hz])
          have HVK : Hid ((if k &&& gSet xs = k then gV xs k else -1) = gBest (gV xs) k (k - 1)) := hide (by rw [if_pos HIN.out, gV_eq xs (by omega), if_pos hz])
          have HAT : Hid (∀ p, 1 ≤ p → p < k → p &&& k = p → ((grpTo xs N k).set k (-1))[p]? = some (gV xs p)) := hide (fun p h1 h2 h3 => grpTo_at h2 hlt (within_trans h3 HIN.out))
          have HRR : Hid (∀ p, p < k → -1 ≤ gV xs p ∧ gV xs p ≤ 7) := hide (fun p hp => gV_7 h7 (HLT.out p (by omega)))
          have HLN : Hid (((grpTo xs N k).set k (-1)).length = N) := hide (by rw [List.length_set, grpTo_len])
          clear hz HSW
          go_wp2_with fail
          refine (HC.out _).mono ?_
          rintro e w3 ⟨rfl, rfl⟩
          go_wp2_with fail
          refine (owedIn_any A c xs k _ (hA.below HB1.out) h7 (by omega)).mono ?_
          rintro e w3 ⟨g3, rfl, hS3, hB3⟩
          have hb3 := next HB1.out hB3
          have HS3 := hide (IntSl.below HS1.out hB3)
          have hl3 := hB3.size
          have hpl := gPart_len xs k
          have hI3 := hS3.ints
          go_wp2_with fail
          have hsum := sumOf_any (some ⟨g3, 0, none⟩) xs.length (gPart xs k) w3 hI3 (by rw [hpl]; omega)
          rw [hpl, HZ.out] at hsum
          refine hsum.mono ?_
          rintro e w4 ⟨rfl, rfl⟩
          clear hsum hpl hI3 hS3 hB3
          go_wp2_with fail
          have hmg := mostGroups_any (some ⟨wo, 0, none⟩) N ((grpTo xs N k).set k (-1)) (gV xs) k w3 HS3.out.ints (by omega) (by omega) (by rw [HLN.out]; exact hlt) (by rw [HLN.out]; exact hN) HAT HRR
          rw [HLN.out] at hmg
          refine hmg.mono ?_
          rintro e w5 ⟨rfl, hB5⟩
          clear hmg
          have hS5 := IntSl.below HS3.out hB5
          have hb5 := next hb3 hB5
          have hsz5 := hb5.size
          have hck5 := hS5.cellAt (List.getElem?_set_self (a := (-1 : Int)) (show k < (grpTo xs N k).length by rw [grpTo_len]; exact hlt))
          have hfz5 := hS5.frozenAt k
          obtain ⟨v, HV⟩ : ∃ v, Hid (gBest (gV xs) k (k - 1) = v) := ⟨_, hide rfl⟩
          rw [HV.out]
          have HN1 : Hid (IntSl (w5.setCell ⟨wo, k, none⟩ (.int .i64 v)) w.heap.size (.slice (some ⟨wo, 0, none⟩) N N) (grpTo xs N (k + 1))) := hide (by
            have := IntSl.store hS5 k v
            rw [List.set_set, grpTo_set (by rw [HVK.out, HV.out])] at this
            exact this)
          have hwo5 := (World.ownsRow.lt hS5 wo rfl)
          have HB5 := hide (hb5.grown (IntSl.grownSet hS5 k v) hsz5 (fun j hj => by injection hj with hj; have := HWG.out; omega))
          have hlt5 : wo < w5.heap.size := hwo5.2
          clear hS5 hwo5
          go_wp2_with fail
          go_roundw
          case rel => exact ⟨k + 1, by omega, hlt, by go_num, HN1.out, by simp; exact hlt5, HB5.out⟩
          case measure => simp [intOf]; omega
        · have hzb : (sumL (gSub xs k) == 0) = false := by simpa using hz
          have HVK : Hid ((if k &&& gSet xs = k then gV xs k else -1) = -1) := hide (by rw [if_pos HIN.out, gV_none hz])
          obtain ⟨sm, HSM⟩ : ∃ sm, Hid (sumL (gSub xs k) = sm) := ⟨_, hide rfl⟩
          rw [HSM.out] at hzb
          clear hz
          go_wp2_with fail
          refine (HC.out _).mono ?_
          rintro e w3 ⟨rfl, rfl⟩
          go_wp2_with fail
          refine (owedIn_any A c xs k _ (hA.below HB1.out) h7 (by omega)).mono ?_
          rintro e w3 ⟨g3, rfl, hS3, hB3⟩
          have hb3 := next HB1.out hB3
          have HS3 := hide (IntSl.below HS1.out hB3)
          have hl3 := hB3.size
          have hpl := gPart_len xs k
          have hI3 := hS3.ints
          go_wp2_with fail
          have hsum := sumOf_any (some ⟨g3, 0, none⟩) xs.length (gPart xs k) w3 hI3 (by rw [hpl]; omega)
          rw [hpl, HSW.out, HSM.out] at hsum
          refine hsum.mono ?_
          rintro e w4 ⟨rfl, rfl⟩
          have HN1 : Hid (IntSl w3 w.heap.size (.slice (some ⟨wo, 0, none⟩) N N) (grpTo xs N (k + 1))) := hide (by
            rw [← grpTo_set HVK.out]
            exact HS3.out)
          have hlt3 : wo < w3.heap.size := by omega
          clear hsum hpl hI3 hS3 hB3
          go_wp2_with fail
          go_roundw
          case rel => exact ⟨k + 1, by omega, hlt, by go_num, HN1.out, hlt3, hb3⟩
          case measure => simp [intOf]; omega
      · have HC : Hid (∀ W, Calls Tryd.prog 115 #[.int .i64 (k : Int), .int .i64 ((N : Int) - 1)] W fun e w' => e = .returned (.bool false) ∧ W = w') := hide (fun W => by
          rw [show (N : Int) - 1 = ((N - 1 : Nat) : Int) from by omega, ← HG.out]
          exact isWithin_n k (gSet xs) W (by omega) (gSet_128 h7) false (hide (decide_eq_false hin)))
        have HN1 : Hid (IntSl (wr.setCell ⟨wo, k, none⟩ (.int .i64 (-1))) w.heap.size (.slice (some ⟨wo, 0, none⟩) N N) (grpTo xs N (k + 1))) := hide (by
          rw [← grpTo_set (v := -1) (by rw [if_neg hin])]
          exact HS1.out)
        clear hin
        go_wp2_with fail
        refine (HC.out _).mono ?_
        rintro e w3 ⟨rfl, rfl⟩
        go_wp2_with fail
        go_roundw
        case rel => exact ⟨k + 1, by omega, hlt, by go_num, HN1.out, hlt1, HB1.out⟩
        case measure => simp [intOf]; omega
    · obtain rfl : k = N := by omega
      have HS := hide hS
      clear hS
      have hk4 : ¬ ((k : Int) ≤ (k : Int) - 1) := by omega
      go_wp2_with fail
      exact bodyPost_ret (results_tmp rfl _ _ _) rfl ⟨_, rfl, HS.out, hb⟩
end Go.Proofs.YtgagfaajilbmmaaDoor

namespace Go.Proofs.YtgagfaajilbmmaaDoor
open Go.RowKit Go.ChangeShapes Go.WideShapes Go.ChangeAt Go.Deep

theorem gV_set {xs : List Int} (h : owedOk xs = true) : groupsMostL xs = gV xs (gSet xs) := by unfold groupsMostL gMost; rw [if_pos h]

set_option maxHeartbeats 1000000 in
theorem implGroupsMost_any (A : Option Addr) (c : Nat) (xs : List Int) (w : World) (hA : IntsAt w A xs) (hl : xs.length ≤ 1048576) :
    Calls Tryd.prog 40 #[.slice A xs.length c] w fun e w' => e = .returned (.int .i64 (groupsMostL xs)) ∧ Below w.heap.size w w' := by
  cases hI : owedOk xs with
  | false =>
    have HI := hide hI
    have HR : Hid (groupsMostL xs = -1) := hide (by unfold groupsMostL; rw [hI]; rfl)
    clear hI
    go_enter Tryd.func40, Tryd.ntmps40
    go_wp2_with fail
    refine (implOwedValid_any _ _ _ _ hA hl).mono ?_
    rintro e w1 ⟨rfl, hB1⟩
    rw [HI.out]
    go_wp2_with fail
    go_ret
    exact ⟨by rw [HR.out]; rfl, hB1⟩
  | true =>
    have HI := hide hI
    have h7 := owedOk_len hI
    obtain ⟨y, HY⟩ : ∃ y, Hid (groupsMostL xs = y) := ⟨_, hide rfl⟩
    have HV : Hid (gV xs (gSet xs) = y) := hide (by rw [← HY.out, gV_set hI])
    obtain ⟨i, hi⟩ : ∃ i : Nat, gSet xs = i := ⟨_, rfl⟩
    have HG := hide hi
    have hi128 : i < 128 := by rw [← hi]; exact gSet_128 h7
    have HO : Hid (∀ W, IntsAt W A xs → Calls Tryd.prog 86 #[.slice A xs.length c] W fun e w' => e = .returned (.int .i64 (i : Int)) ∧ W = w') := hide (fun W h => by
      rw [← hi, ← openS_set]
      exact openSet_any A c xs W h h7)
    clear hI hi
    go_enter Tryd.func40, Tryd.ntmps40
    go_wp2_with fail
    refine (implOwedValid_any _ _ _ _ hA hl).mono ?_
    rintro e w1 ⟨rfl, hB1⟩
    rw [HI.out]
    go_wp2_with fail
    refine (groupTable_any A c xs (i + 1) _ (hA.below hB1) HI (hide (by rw [HG.out]))).mono ?_
    rintro e w2 ⟨g, rfl, hS, hB2⟩
    have hb2 := next hB1 hB2
    have hcell := hS.cellAt (grpTo_all (xs := xs) (N := i + 1) (j := i) (by omega) (by rw [HG.out]; exact within_self i))
    rw [← HG.out, HV.out, HG.out] at hcell
    have hi0 : (0 : Int) ≤ i := by omega
    have hi1 : (i : Int) < ((i + 1 : Nat) : Int) := by omega
    clear hS hB2
    go_wp2_with fail
    refine (HO.out _ (hA.below hb2)).mono ?_
    rintro e w3 ⟨rfl, rfl⟩
    go_wp2_with fail
    go_ret
    exact ⟨by rw [HY.out]; rfl, hb2⟩

set_option maxHeartbeats 1000000 in
theorem implSettleLeast_any (A : Option Addr) (c : Nat) (xs : List Int) (w : World) (hA : IntsAt w A xs) (hl : xs.length ≤ 1048576) :
    Calls Tryd.prog 38 #[.slice A xs.length c] w fun e w' => e = .returned (.int .i64 (settleLeastL xs)) ∧ Below w.heap.size w w' := by
  cases hI : owedOk xs with
  | false =>
    have HI := hide hI
    have HR : Hid (settleLeastL xs = -1) := hide (by unfold settleLeastL; rw [hI]; rfl)
    clear hI
    go_enter Tryd.func38, Tryd.ntmps38
    go_wp2_with fail
    refine (implOwedValid_any _ _ _ _ hA hl).mono ?_
    rintro e w1 ⟨rfl, hB1⟩
    rw [HI.out]
    go_wp2_with fail
    go_ret
    exact ⟨by rw [HR.out]; rfl, hB1⟩
  | true =>
    have HI := hide hI
    have h7 := owedOk_len hI
    obtain ⟨i, hi⟩ : ∃ i : Nat, gSet xs = i := ⟨_, rfl⟩
    have hi128 : i < 128 := by rw [← hi]; exact gSet_128 h7
    have HO : Hid (∀ W, IntsAt W A xs → Calls Tryd.prog 86 #[.slice A xs.length c] W fun e w' => e = .returned (.int .i64 (i : Int)) ∧ W = w') := hide (fun W h => by
      rw [← hi, ← openS_set]
      exact openSet_any A c xs W h h7)
    obtain ⟨n, hn⟩ : ∃ n : Nat, nz xs = n := ⟨_, rfl⟩
    have hn7 : n ≤ 7 := by rw [← hn]; have := nz_len xs; omega
    have HC : Hid (∀ W, Calls Tryd.prog 87 #[.int .u64 (i : Int)] W fun e w' => e = .returned (.int .i64 (n : Int)) ∧ W = w') := hide (fun W => by
      rw [← hn, ← popN_set xs h7, hi]
      exact onesCount_any i W (by omega))
    have hw : IntKind.u64.wrap (i : Int) = i := wraps_u64 _ (by omega) (by omega)
    obtain ⟨y, hy⟩ : ∃ y : Int, groupsMostL xs = y := ⟨_, rfl⟩
    have HY := hide hy
    have hyr : -1 ≤ y ∧ y ≤ 7 := by
      rw [← hy, gV_set hI]
      exact gV_7 h7 (gSet_lt xs)
    have hy0 := hyr.1
    have hy1 := hyr.2
    have HR : Hid (settleLeastL xs = (n : Int) - y) := hide (by unfold settleLeastL; rw [if_pos hI, hn, ← hy]; unfold groupsMostL; rw [if_pos hI])
    clear hI hi hn hy hyr
    go_enter Tryd.func38, Tryd.ntmps38
    go_wp2_with fail
    refine (implOwedValid_any _ _ _ _ hA hl).mono ?_
    rintro e w1 ⟨rfl, hB1⟩
    rw [HI.out]
    go_wp2_with fail
    refine (HO.out _ (hA.below hB1)).mono ?_
    rintro e w3 ⟨rfl, rfl⟩
    go_wp2_with fail
    refine (HC.out _).mono ?_
    rintro e w3 ⟨rfl, rfl⟩
    go_wp2_with fail
    refine (implGroupsMost_any _ _ _ _ (hA.below hB1) hl).mono ?_
    rintro e w4 ⟨rfl, hB4⟩
    rw [HY.out]
    have hb4 := next hB1 hB4
    go_wp2_with fail
    go_ret
    exact ⟨by rw [HR.out]; rfl, hb4⟩

theorem isWithin_s (p s : Nat) (w : World) (hp : p < 128) (hs : s < 128) (b : Bool) (hb : Hid (decide (p &&& s = p) = b)) :
    Calls Tryd.prog 115 #[.int .i64 p, .int .i64 s] w fun e w' => e = .returned (.bool b) ∧ w' = w := (isWithin_n p s w hp hs b hb).mono fun _ _ h => ⟨h.1, h.2.symm⟩
theorem gCond_yes {xs : List Int} {left g : Nat} {y z u : Int} (h1 : g &&& left = g) (hy : gV xs g = y) (hz : gV xs (left - g) = z) (hu : gV xs left = u) : gCond xs left g = (y == 1 && z == u - 1) := by
  unfold gCond
  rw [decide_eq_true h1, hy, hz, hu]
  rfl
theorem gCond_not {xs : List Int} {left g : Nat} (h1 : ¬ g &&& left = g) : gCond xs left g = false := by
  unfold gCond
  rw [decide_eq_false h1]
  rfl

set_option maxRecDepth 100000 in
set_option maxHeartbeats 4000000 in
theorem firstGroup_any (A : Option Addr) (c : Nat) (T : List Int) (xs : List Int) (s : Nat) (w : World) (hA : IntsAt w A T) (hs0 : 0 < s) (hs : s < 128) (hT : s < T.length) (hTl : T.length ≤ 128) (HV : Hid (∀ p, p ≤ s → p &&& s = p → T[p]? = some (gV xs p))) (HR : Hid (∀ p, p ≤ s → -1 ≤ gV xs p ∧ gV xs p ≤ 7)) :
    Calls Tryd.prog 91 #[.slice A T.length c, .int .i64 s] w fun e w' => e = .returned (.int .i64 (gFirst xs s : Int)) ∧ Below w.heap.size w w' := by
  have hs1 : (s : Int) < T.length := by omega
  have hs2 : (0 : Int) ≤ s := by omega
  obtain ⟨u, HU⟩ : ∃ u, Hid (gV xs s = u) := ⟨_, hide rfl⟩
  have hur := HR.out s (Nat.le_refl _)
  have huv := HV.out s (Nat.le_refl _) (within_self s)
  rw [HU.out] at hur huv
  have HUV := hide huv
  have hwu : IntKind.i64.wrap (u - 1) = u - 1 := IntWalk.i64_in _ (by omega)
  clear huv
  go_enter Tryd.func91, Tryd.ntmps91
  go_wp2_with fail
  go_loopw [5] (fun gv wr => ∃ (g : Nat), 1 ≤ g ∧ g ≤ s ∧ gv = .int .i64 (g : Int) ∧ Hid (gFirst xs s = gFirstGo xs s (s - g) g) ∧ Below w.heap.size w wr) (fun gv _ => (s - (intOf gv).toNat))
  case atStart => exact ⟨1, by omega, by omega, rfl, hide rfl, Below.refl _ _⟩
  case round =>
    obtain ⟨g, hg1, hgs, rfl, HG, hb⟩ := hrel
    have hsz := hb.size
    by_cases hlt : g < s
    · have hg0 : (0 : Int) ≤ g := by omega
      have hg2 : (g : Int) < s := by omega
      have hg3 : (g : Int) < T.length := by omega
      have HST : Hid (gFirstGo xs s (s - g) g = if gCond xs s g = true then g else gFirstGo xs s (s - (g + 1)) (g + 1)) := hide (by
        rw [show s - g = (s - (g + 1)) + 1 from by omega, gFirstGo])
      by_cases hin : g &&& s = g
      · have HC := hide (fun W => isWithin_s g s W (by omega) hs true (hide (decide_eq_true hin)))
        obtain ⟨y, HY⟩ : ∃ y, Hid (gV xs g = y) := ⟨_, hide rfl⟩
        have hy := HV.out g (by omega) hin
        rw [HY.out] at hy
        obtain ⟨b, off, rfl, hbl, hcy⟩ := (hA.below hb) g y hy
        have hrin := rest_within s (Nat.le_refl _) hin
        obtain ⟨z, HZ⟩ : ∃ z, Hid (gV xs (s - g) = z) := ⟨_, hide rfl⟩
        have hz := HV.out (s - g) (by omega) hrin
        rw [HZ.out] at hz
        have hzr := HR.out (s - g) (by omega)
        rw [HZ.out] at hzr
        have HCD := hide (gCond_yes hin HY.out HZ.out HU.out)
        by_cases hy1 : y = 1
        · have hyb : (y == 1) = true := by simpa using hy1
          obtain ⟨b', off', e', -, hcz⟩ := (hA.below hb) (s - g) z hz
          injection e' with e'
          injection e' with e1 e2
          subst e1 e2
          obtain ⟨b', off', e', -, hcu⟩ := (hA.below hb) s u HUV.out
          injection e' with e'
          injection e' with e1 e2
          subst e1 e2
          have hw2 : bits .andNot .i64 (s : Int) (g : Int) = ((s - g : Nat) : Int) := by
            rw [andNot_n hs (by omega)]
            rw [Nat.and_comm, hin]
          obtain ⟨r, hr⟩ : ∃ r : Nat, r = s - g := ⟨_, rfl⟩
          rw [← hr] at hw2 hcz
          have hr0 : (0 : Int) ≤ r := by omega
          have hr1 : (r : Int) < T.length := by omega
          clear hy hz hin hrin hr
          by_cases hzu : z = u - 1
          · have hzb : (z == u - 1) = true := by simpa using hzu
            have H3 : Hid (gFirst xs s = g) := hide (by rw [HG.out, HST.out, HCD.out, hyb, hzb]; rfl)
            clear hzu hy1
            go_wp2_with fail
            go_quiet ((go_at_call 115; exact Calls.quiet_of_same (HC.out _)))
            go_wp2_with fail
            go_ret
            exact ⟨by rw [H3.out]; rfl, below_drewN hb _⟩
          · have hzb : (z == u - 1) = false := by simpa using hzu
            have H3 : Hid (gFirst xs s = gFirstGo xs s (s - (g + 1)) (g + 1)) := hide (by rw [HG.out, HST.out, HCD.out, hyb, hzb]; rfl)
            clear hzu hy1
            go_wp2_with fail
            go_quiet ((go_at_call 115; exact Calls.quiet_of_same (HC.out _)))
            go_wp2_with fail
            go_roundw
            case rel => exact ⟨g + 1, by omega, by omega, by go_num, H3, below_drewN hb _⟩
            case measure => simp [intOf]; omega
        · have hyb : (y == 1) = false := by simpa using hy1
          have H3 : Hid (gFirst xs s = gFirstGo xs s (s - (g + 1)) (g + 1)) := hide (by rw [HG.out, HST.out, HCD.out, hyb]; rfl)
          clear hy hz hin hrin hy1
          go_wp2_with fail
          go_quiet ((go_at_call 115; exact Calls.quiet_of_same (HC.out _)))
          go_wp2_with fail
          go_roundw
          case rel => exact ⟨g + 1, by omega, by omega, by go_num, H3, below_drewN hb _⟩
          case measure => simp [intOf]; omega
      · have HC := hide (fun W => isWithin_s g s W (by omega) hs false (hide (decide_eq_false hin)))
        have H3 : Hid (gFirst xs s = gFirstGo xs s (s - (g + 1)) (g + 1)) := hide (by rw [HG.out, HST.out, gCond_not hin]; rfl)
        clear hin
        go_wp2_with fail
        go_quiet ((go_at_call 115; exact Calls.quiet_of_same (HC.out _)))
        go_wp2_with fail
        go_roundw
        case rel => exact ⟨g + 1, by omega, by omega, by go_num, H3, below_drewN hb _⟩
        case measure => simp [intOf]; omega
    · obtain rfl : g = s := by omega
      have H3 : Hid (gFirst xs g = g) := hide (by rw [HG.out, Nat.sub_self]; rfl)
      go_wp2_with fail
      go_ret
      exact ⟨by rw [H3.out]; rfl, hb⟩

theorem wpList_spreadN_pay {W : World} {ops : Array Oper} {rest : List Oper} {o : Oper} {a : Act} {Q : Exit → Act → World → Prop} (hgd : o.guard = none) (s x : Operand)
    (ho : o.op = .call { callee := .builtin .append, args := #[s, x], argTypes := #[55, 55] }) (lo : Nat) (v : Value) (ls : List Pay) (hs : a.eval s = v) (hown : PaySl W lo v ls)
    (ad : Addr) (m c : Nat) (hm0 : 0 < m) (xs : List Pay) (hm : xs.length = m) (hx : a.eval x = .slice (some ad) m c) (hA : PaysAt W (some ad) xs) (hn : ls.length + m ≤ 1048576) (hlo : lo ≤ W.heap.size)
    (h : ∀ g cap w', PaySl w' lo (.slice (some ⟨g, 0, none⟩) (ls.length + m) cap) (ls ++ xs) → W.grownBy w' v.ownBlock → wpList Tryd.prog ops Q rest (a.put o.dst (.slice (some ⟨g, 0, none⟩) (ls.length + m) cap)) w') : wpList Tryd.prog ops Q (o :: rest) a W :=
  wpList_plain hgd fun _ hK => by
    obtain ⟨i0, hi, hz0, hz1, hz2⟩ := info_parts infoPay
    subst hm
    refine wp_spreadN s x 55 ho lo 65 i0 _ 3 24 Tryd.underlying55 hi hz0 hz1 hz2 rfl (by decide) v ls.length (payCells ls) hs hown ad xs.length c hm0 (payCells xs) hx (payCells_len xs) (pays_news hA) payCells_one (by unfold maxLen; omega) (by omega) hlo ?_
    intro g cap w' h1 h2
    refine hK _ _ (h g cap w' ?_ h2)
    unfold PaySl
    rw [List.length_append]
    rw [show payCells (ls ++ xs) = payCells ls ++ payCells xs from by simp [payCells]]
    exact h1

structure GStep (xs : List Int) (left p : Nat) : Prop where
  pos : 1 ≤ p
  within : p &&& left = p
  le : p ≤ left
  lt : p < 128
  zero : sumL (gSub xs p) = 0
  open_ : p &&& gSet xs = p
  rest0 : sumL (gSub xs (left - p)) = 0
  restw : (left - p) &&& gSet xs = left - p
  some_ : 1 ≤ (settleFastL (gPart xs p)).length
  few : (settleFastL (gPart xs p)).length + (gSub xs (left - p)).length + 1 ≤ (gSub xs left).length
theorem gStep_of {xs : List Int} {left : Nat} (hok : owedOk xs = true) (hw : left &&& gSet xs = left) (h0 : sumL (gSub xs left) = 0) (hl : 0 < left) : GStep xs left (gFirst xs left) := by
  have hg := gFirst_is (gSub_lt hw) h0 hl
  generalize gFirst xs left = p at *
  obtain ⟨h1, h2, h3, h4⟩ := hg
  have hle := within_le h2
  have hpw := within_trans h2 hw
  have hp0 : sumL (gSub xs p) = 0 := (gV_not (by omega)).1 (by omega)
  have hsh := gSub_shuf xs h2
  have hr0 : sumL (gSub xs (left - p)) = 0 := by
    have := hsh.sum
    omega
  have h7 := owedOk_len hok
  have hrw := within_trans (rest_within left (Nat.le_refl _) h2) hw
  have hpl := gMost_part hpw
  have hpo := gPart_ok hok hp0
  have hfs := settleFast_said hpo
  have hne := gSub_ne xs p (gSub_lt hpw) (by omega)
  have hlp : 0 < (gSub xs p).length := List.length_pos_iff.2 hne
  have hfl := hfs.2.2 (by omega)
  have hsl7 := gSub_len xs p
  have hlo := (pays_least hfs.1 (by omega)).2
  have hhalf := gMost_half hpo
  unfold settleLeastL at hlo
  rw [if_pos hpo, hpl.1, hpl.2, h3] at hlo
  rw [hpl.1, hpl.2, h3] at hhalf
  have hlen := hsh.len
  have := gSet_128 h7
  have := within_le hw
  exact ⟨h1, h2, hle, by omega, hp0, hpw, hr0, hrw, by omega, by omega⟩

set_option maxRecDepth 100000 in
set_option maxHeartbeats 4000000 in
theorem implSettleBest_any (A : Option Addr) (c : Nat) (xs : List Int) (w : World) (hA : IntsAt w A xs) (hl : xs.length ≤ 1048576) :
    Calls Tryd.prog 44 #[.slice A xs.length c] w fun e w' => ∃ v, e = .returned v ∧ PaySl w' w.heap.size v (settleBestL xs) ∧ Below w.heap.size w w' := by
  cases hI : owedOk xs with
  | false =>
    have HI := hide hI
    have HR : Hid (settleBestL xs = []) := hide (by unfold settleBestL; rw [hI]; rfl)
    clear hI
    go_enter Tryd.func44, Tryd.ntmps44
    go_wp2_with fail
    refine (implOwedValid_any _ _ _ _ hA hl).mono ?_
    rintro e w1 ⟨rfl, hB1⟩
    rw [HI.out]
    go_wp2_with fail
    refine bodyPost_ret (results_tmp rfl _ _ _) rfl ⟨.slice none 0 0, rfl, by rw [HR.out]; exact World.ownsRow_nil _ _ _ _, hB1⟩
  | true =>
    have HI := hide hI
    have h7 := owedOk_len hI
    obtain ⟨i, hi⟩ : ∃ i : Nat, gSet xs = i := ⟨_, rfl⟩
    have HG := hide hi
    have hi128 : i < 128 := by rw [← hi]; exact gSet_128 h7
    have HO : Hid (∀ W, IntsAt W A xs → Calls Tryd.prog 86 #[.slice A xs.length c] W fun e w' => e = .returned (.int .i64 (i : Int)) ∧ W = w') := hide (fun W h => by
      rw [← hi, ← openS_set]
      exact openSet_any A c xs W h h7)
    have HR : Hid (settleBestL xs = [] ++ groupGo xs i i) := hide (by unfold settleBestL; rw [if_pos hI, hi]; rfl)
    have HS0 : Hid (sumL (gSub xs i) = 0) := hide (by rw [← hi]; exact owed_sum0 hI)
    have HLT : Hid (∀ s, s ≤ i → s < 2 ^ xs.length) := hide (fun s hs => by have := gSet_lt xs; omega)
    have HL7 := hide (gSub_len xs i)
    clear hI hi
    go_enter Tryd.func44, Tryd.ntmps44
    go_wp2_with fail
    refine (implOwedValid_any _ _ _ _ hA hl).mono ?_
    rintro e w1 ⟨rfl, hB1⟩
    rw [HI.out]
    go_wp2_with fail
    refine (groupTable_any A c xs (i + 1) _ (hA.below hB1) HI (hide (by rw [HG.out]))).mono ?_
    rintro e w2 ⟨gt, rfl, hS, hB2⟩
    have hb2 := next hB1 hB2
    have HS := hide (IntSl.mono hS hB1.size)
    clear hS hB1 hB2
    go_wp2_with fail
    refine (HO.out _ (hA.below hb2)).mono ?_
    rintro e w3 ⟨rfl, rfl⟩
    go_wp2_with fail
    go_loopw [3, 5] (fun lv left wr => ∃ (ls : List Pay) (m f : Nat), m ≤ f ∧ m ≤ i ∧ left = .int .i64 (m : Int) ∧ PaySl wr w.heap.size lv ls ∧ Hid (m &&& gSet xs = m) ∧ Hid (sumL (gSub xs m) = 0) ∧ Hid (settleBestL xs = ls ++ groupGo xs f m) ∧ Hid (ls.length + (gSub xs m).length ≤ 7) ∧ IntSl wr w.heap.size (.slice (some ⟨gt, 0, none⟩) (i + 1) (i + 1)) (grpTo xs (i + 1) (i + 1)) ∧ Below w.heap.size w wr) (fun _ left _ => (intOf left).toNat)
    case atStart => exact ⟨[], i, i, Nat.le_refl _, Nat.le_refl _, rfl, World.ownsRow_nil _ _ _ _, hide (by rw [HG.out]; exact within_self i), HS0, HR, hide (by have := HL7.out; simp; omega), HS.out, hb2⟩
    case round =>
      clear HS hb2 HS0 HR HL7
      obtain ⟨ls, m, f, hmf, hmi, rfl, hP, HW, H0, HB, HL, hS, hb⟩ := hrel
      have hsz := hb.size
      by_cases hm : m = 0
      · subst hm
        have H3 : Hid (settleBestL xs = ls) := hide (by rw [HB.out, groupGo_zero, List.append_nil])
        go_wp2_with fail
        refine bodyPost_ret (results_tmp rfl _ _ _) rfl ⟨_, rfl, by rw [H3.out]; exact hP, hb⟩
      · obtain ⟨f', rfl⟩ : ∃ f', f = f' + 1 := ⟨f - 1, by omega⟩
        have hmb : ((m : Int) != 0) = true := by simp; omega
        have hgs := gStep_of HI.out HW.out H0.out (by omega)
        have HB2 : Hid (settleBestL xs = (ls ++ settleFastL (gPart xs (gFirst xs m))) ++ groupGo xs f' (m - gFirst xs m)) := hide (by rw [HB.out, groupGo, if_neg hm, List.append_assoc])
        have hHL := HL.out
        have HV : Hid (∀ p, p ≤ m → p &&& m = p → (grpTo xs (i + 1) (i + 1))[p]? = some (gV xs p)) := hide (fun p h1 h2 => grpTo_all (by omega) (within_trans h2 HW.out))
        have HRR : Hid (∀ p, p ≤ m → -1 ≤ gV xs p ∧ gV xs p ≤ 7) := hide (fun p hp => gV_7 h7 (HLT.out p (by omega)))
        have hfg := fun W h => firstGroup_any (some ⟨gt, 0, none⟩) (i + 1) (grpTo xs (i + 1) (i + 1)) xs m W h (by omega) (by omega) (by rw [grpTo_len]; omega) (by rw [grpTo_len]; omega) HV HRR
        rw [grpTo_len] at hfg
        have HFG := hide hfg
        obtain ⟨p, hp⟩ : ∃ p, gFirst xs m = p := ⟨_, rfl⟩
        rw [hp] at hgs HB2
        have HP := hide hp
        obtain ⟨g1, g2, g3, g4, g5, g6, g7, g8, g9, g10⟩ := hgs
        have HW2 := hide g8
        have H02 := hide g7
        have hpl := gPart_len xs p
        have HPL := hide hpl
        have HIN := hide g2
        have HG9 := hide g9
        have HG10 : Hid (ls.length + (settleFastL (gPart xs p)).length + (gSub xs (m - p)).length ≤ 7) := hide (by omega)
        clear hm hfg hp g2 g5 g6 g7 g8 g9 g10 hpl hHL
        go_wp2_with fail
        refine (HFG.out _ hS.ints).mono ?_
        rintro e w3 ⟨rfl, hB3⟩
        rw [HP.out]
        have hb3 := next hb hB3
        have hP3 := PaySl.below hP hB3
        have hS3 := IntSl.below hS hB3
        clear hP hS hB3
        go_wp2_with fail
        refine (owedIn_any A c xs p _ (hA.below hb3) h7 g4).mono ?_
        rintro e w4 ⟨g4', rfl, hQ4, hB4⟩
        have hb4 := next hb3 hB4
        have hP4 := PaySl.below hP3 hB4
        have hS4 := IntSl.below hS3 hB4
        have hI4 := hQ4.ints
        clear hP3 hS3 hB4
        have hsf := implSettleFast_any ⟨g4', 0, none⟩ xs.length (gPart xs p) w4 hI4 (by rw [HPL.out]; omega)
        rw [HPL.out] at hsf
        have HSF := hide hsf
        clear hsf hQ4
        go_wp2_with fail
        refine HSF.out.mono ?_
        rintro e w5 ⟨fv, rfl, hF5, hB5⟩
        have hb5 := next hb4 hB5
        have hP5 := PaySl.below hP4 hB5
        have hS5 := IntSl.below hS4 hB5
        obtain ⟨A5, c5, hv5, hF5a, -⟩ := hF5.form
        obtain ⟨n5, hn5⟩ : ∃ n5, (settleFastL (gPart xs p)).length = n5 := ⟨_, rfl⟩
        have hlen5 := HG10.out
        have hpos5 := HG9.out
        rw [hn5] at hv5 hlen5 hpos5
        subst hv5
        obtain ⟨a5, rfl⟩ : ∃ a5, A5 = some a5 := by
          obtain ⟨b, off, e, -⟩ := hF5a 0 _ (List.getElem?_eq_getElem (show 0 < (settleFastL (gPart xs p)).length by omega))
          exact ⟨_, e⟩
        have HN5 := hide hn5
        have HP5 := hide hP5
        have HS5 := hide hS5
        have HF5 := hide hF5a
        have HAP := hide (rows_apart hS5 hP5 (by decide))
        have HLT5 := hide (World.ownsRow.lt hP5)
        have hsz5 := hb5.size
        clear hP4 hS4 hP5 hS5 hF5 hF5a hB5 hn5 hI4
        go_wp2_with (at_builtin; refine wpList_spreadN_pay rfl _ _ rfl w.heap.size u3 ls rfl HP5.out a5 n5 c5 (by omega) (settleFastL (gPart xs p)) HN5.out rfl HF5.out (by omega) (by omega) ?_; intro gg cap w6 hown hgrow)
        have hb6 : Below w.heap.size w w6 := hb5.grown hgrow (by omega) (fun k hk => (HLT5.out k hk).1)
        have hS6 : IntSl w6 w.heap.size (.slice (some ⟨gt, 0, none⟩) (i + 1) (i + 1)) (grpTo xs (i + 1) (i + 1)) := HS5.out.row hgrow HAP.out
        have hw2 : bits .andNot .i64 (m : Int) (p : Int) = ((m - p : Nat) : Int) := by
          rw [andNot_n (by omega) g4]
          rw [Nat.and_comm, HIN.out]
        have HLS : Hid ((ls ++ settleFastL (gPart xs p)).length = ls.length + n5) := hide (by rw [List.length_append, HN5.out])
        clear hgrow
        go_wp2_with fail
        go_roundw
        case rel => exact ⟨ls ++ settleFastL (gPart xs p), m - p, f', by omega, by omega, by rw [hw2], hown, HW2, H02, HB2, hide (by rw [HLS.out]; omega), hS6, hb6⟩
        case measure => simp [intOf]; omega
end Go.Proofs.YtgagfaajilbmmaaDoor
