/- GrpSpec: contracts of l5Sum, l5Groups, GroupsMost, SettleLeast and l5First of the reference model.
   Conditions: lists have at most 1048576 elements.
   GrpSpec2: contracts of l5First and SettleBest of the reference model.
   Conditions: lists have at most 1048576 elements. -/
import Derived.Test.YtgagfaajilbmmaaDoorGrpImpl
import Derived.Test.YtgagfaajilbmmaaDoorPush
namespace Go.Proofs.YtgagfaajilbmmaaDoor
open Go.RowKit Go.ChangeShapes Go.WideShapes Go.ChangeAt Go.Deep

theorem gSub_step (xs : List Int) (s k : Nat) {x : Int} (h : xs.drop k = x :: xs.drop (k + 1)) : gSub (xs.drop k) (s / 2 ^ k) = if s / 2 ^ k % 2 = 1 then x :: gSub (xs.drop (k + 1)) (s / 2 ^ (k + 1)) else gSub (xs.drop (k + 1)) (s / 2 ^ (k + 1)) := by
  rw [h, gSub, Nat.div_div_eq_div_mul, Nat.pow_succ]
theorem shift_n (s k : Nat) : ((s : Int) / 2 ^ k) = ((s / 2 ^ k : Nat) : Int) := by simp
theorem shift_odd {s k : Nat} : ((s : Int) / 2 ^ k % 2 == 1) = decide (s / 2 ^ k % 2 = 1) := by
  rw [shift_n, Bool.eq_iff_iff, beq_iff_eq, decide_eq_true_iff]
  omega
theorem shift_low (s k : Nat) : (0 : Int) ≤ (s : Int) / 2 ^ k := Int.ediv_nonneg (by omega) (Int.pow_nonneg (by omega))

set_option maxRecDepth 100000 in
set_option maxHeartbeats 1000000 in
theorem l5Sum_any (A : Option Addr) (c : Nat) (xs : List Int) (s : Nat) (w : World) (hA : IntsAt w A xs) (hl : xs.length ≤ 7) (HR : Hid (∀ y ∈ xs, -9999 ≤ y ∧ y ≤ 9999)) :
    Calls Tryd.prog 117 #[.slice A xs.length c, .int .i64 s] w fun e w' => e = .returned (.int .i64 (sumL (gSub xs s))) ∧ Below w.heap.size w w' := by
  go_enter Tryd.func117, Tryd.ntmps117
  go_wp2_with fail
  go_loopw [5, 6] (fun sv i wr => ∃ (k : Nat) (t : Int), k ≤ xs.length ∧ i = .int .i64 k ∧ sv = .int .i64 t ∧ -9999 * (k : Int) ≤ t ∧ t ≤ 9999 * (k : Int) ∧ Hid (sumL (gSub xs s) = t + sumL (gSub (xs.drop k) (s / 2 ^ k))) ∧ Below w.heap.size w wr) (fun _ i _ => xs.length - (intOf i).toNat)
  case atStart => exact ⟨0, 0, Nat.zero_le _, rfl, rfl, by omega, by omega, hide (by simp), Below.refl _ _⟩
  case round =>
    obtain ⟨k, t, hk, rfl, rfl, ht0, ht1, HG, hb⟩ := hrel
    have hsz := hb.size
    by_cases hlt : k < xs.length
    · obtain ⟨b, off, rfl, hbl, hc1⟩ := (hA.below hb) k xs[k] (List.getElem?_eq_getElem hlt)
      have HD := hide (gSub_step xs s k (List.drop_eq_getElem_cons hlt))
      have hxr := HR.out xs[k] (List.getElem_mem hlt)
      generalize xs[k] = x at *
      have hz : (0 : Int) ≤ k := by omega
      have hz2 : (k : Int) < xs.length := by omega
      have hk64 : k < 64 := by omega
      have hsl := shift_low s k
      have hso := shift_odd (s := s) (k := k)
      by_cases hh : s / 2 ^ k % 2 = 1
      · rw [decide_eq_true hh] at hso
        have H3 : Hid (sumL (gSub xs s) = (t + x) + sumL (gSub (xs.drop (k + 1)) (s / 2 ^ (k + 1)))) := hide (by rw [HG.out, HD.out, if_pos hh, sumL]; omega)
        clear hh
        go_wp2_with fail
        go_roundw
        case rel => exact ⟨k + 1, t + x, hlt, by go_num, rfl, by omega, by omega, H3, hb⟩
        case measure => simp [intOf]; omega
      · rw [decide_eq_false hh] at hso
        have H3 : Hid (sumL (gSub xs s) = t + sumL (gSub (xs.drop (k + 1)) (s / 2 ^ (k + 1)))) := hide (by rw [HG.out, HD.out, if_neg hh])
        clear hh
        go_wp2_with fail
        go_roundw
        case rel => exact ⟨k + 1, t, hlt, by go_num, rfl, by omega, by omega, H3, hb⟩
        case measure => simp [intOf]; omega
    · have H3 : Hid (sumL (gSub xs s) = t) := hide (by rw [HG.out, List.drop_of_length_le (by omega), gSub, sumL]; omega)
      go_wp2_with fail
      go_ret
      exact ⟨by rw [H3.out]; rfl, hb⟩

/-- The table of all sets up to one. -/
def grpAll (xs : List Int) (k : Nat) : List Int := tab k (gV xs)
theorem grpAll_len (xs : List Int) (k : Nat) : (grpAll xs k).length = k := tab_len _ _
theorem grpAll_at {xs : List Int} {k j : Nat} (h : j < k) : (grpAll xs k)[j]? = some (gV xs j) := by unfold grpAll; rw [tab_at h]
theorem grpAll_snoc (xs : List Int) (k : Nat) : grpAll xs k ++ [gV xs k] = grpAll xs (k + 1) := tab_snoc _ _

set_option maxRecDepth 100000 in
set_option maxHeartbeats 4000000 in
theorem l5Groups_any (A : Option Addr) (c : Nat) (xs : List Int) (N : Nat) (w : World) (hA : IntsAt w A xs) (hl : xs.length ≤ 7) (HR : Hid (∀ y ∈ xs, -9999 ≤ y ∧ y ≤ 9999)) (HN : Hid (N = 2 ^ xs.length)) :
    Calls Tryd.prog 90 #[.slice A xs.length c] w fun e w' => ∃ g cap, e = .returned (.slice (some ⟨g, 0, none⟩) N cap) ∧ IntSl w' w.heap.size (.slice (some ⟨g, 0, none⟩) N cap) (grpAll xs N) ∧ Below w.heap.size w w' := by
  have hp := pow7 hl
  have hNp : (2 : Int) ^ xs.length = (N : Int) := by rw [HN.out]; simp
  rw [hNp] at hp
  have hN1 : 1 ≤ N := by omega
  have hN2 : N ≤ 128 := by omega
  have HLT : Hid (∀ s, s < N → s < 2 ^ xs.length) := hide (fun s hs => by rw [HN.out] at hs; exact hs)
  have HRR : Hid (∀ s, s < N → -1 ≤ gV xs s ∧ gV xs s ≤ 7) := hide (fun s hs => gV_7 hl (HLT.out s hs))
  have HSUM := hide (fun W s h => l5Sum_any A c xs s W h hl HR)
  obtain ⟨n, hn⟩ : ∃ n : Nat, xs.length = n := ⟨_, rfl⟩
  rw [hn] at hNp HSUM ⊢
  have hn7 : n ≤ 7 := by omega
  clear hl hn hp
  have HO0 : Hid (IntSl (w.alloc (.cells #[.int .i64 0] 3)) w.heap.size (.slice (some ⟨w.heap.size, 0, none⟩) 1 1) (grpAll xs 1)) := hide (World.ownsRow_lit w #[.int .i64 0] 1 (Nat.le_refl _) (by unfold maxLen; omega) rfl)
  have HBA0 : Hid (Below w.heap.size w (w.alloc (.cells #[.int .i64 0] 3))) := hide (by go_grown)
  go_enter Tryd.func90, Tryd.ntmps90
  go_wp2_with fail
  go_loopw [3, 4] (fun ov iv wr => ∃ (k g cap : Nat), 1 ≤ k ∧ k ≤ N ∧ iv = .int .i64 k ∧ ov = .slice (some ⟨g, 0, none⟩) k cap ∧ IntSl wr w.heap.size (.slice (some ⟨g, 0, none⟩) k cap) (grpAll xs k) ∧ Below w.heap.size w wr) (fun _ iv _ => (N - (intOf iv).toNat))
  case atStart => exact ⟨1, w.heap.size, 1, by omega, hN1, rfl, rfl, HO0.out, HBA0.out⟩
  case round =>
    clear HO0 HBA0
    obtain ⟨k, g, cap, hk1, hk2, rfl, rfl, hS, hb⟩ := hrel
    have hsz := hb.size
    by_cases hlt : k < N
    · have hk0 : (0 : Int) ≤ k := by omega
      have hkN : (k : Int) < N := by omega
      have hk3 : (k : Int) < 2 ^ n := by omega
      have HSM := hide (fun W h => HSUM.out W k h)
      by_cases hz : sumL (gSub xs k) = 0
      · have HZ := hide hz
        have HVK : Hid (gV xs k = gBest (gV xs) k (k - 1)) := hide (by rw [gV_eq xs (by omega), if_pos hz])
        have HPOS : Hid (∀ p, 1 ≤ p → sumL (gSub xs p) = 0 → 1 ≤ gV xs p) := hide (fun p h1 h2 => gV_pos (by omega) h2)
        clear hz
        go_wp2_with fail
        refine (HSM.out _ (hA.below hb)).mono ?_
        rintro e w3 ⟨rfl, hB3⟩
        rw [HZ.out]
        have HS3 := hide (IntSl.below hS hB3)
        have hb3 := next hb hB3
        clear hS hB3 hb hsz
        go_wp2_with fail
        go_loopw [5, 6] (fun bv pv wr => ∃ (p : Nat) (v : Int), p < k ∧ pv = .int .i64 ((p : Int) + 1) ∧ bv = .int .i64 v ∧ 1 ≤ v ∧ v ≤ 14 ∧ Hid (gBest (gV xs) k p = v) ∧ IntSl wr w.heap.size (.slice (some ⟨g, 0, none⟩) k cap) (grpAll xs k) ∧ Below w.heap.size w wr) (fun _ pv _ => (k + 1 - (intOf pv).toNat))
        case atStart => exact ⟨0, 1, by omega, by simp, rfl, by omega, by omega, hide rfl, HS3.out, hb3⟩
        case round =>
          clear HS3 hb3
          obtain ⟨p, v, hpk, rfl, rfl, hv0, hv1, HB, hS, hb⟩ := hrel
          have hsz := hb.size
          by_cases hpl : (p : Int) + 1 < k
          · have hpc : ((p + 1 : Nat) : Int) = (p : Int) + 1 := by omega
            have hp0 : (0 : Int) ≤ (p : Int) + 1 := by omega
            by_cases hin : (p + 1) &&& k = p + 1
            · have HC : Hid (∀ W, Calls Tryd.prog 118 #[.int .i64 ((p : Int) + 1), .int .i64 (k : Int)] W fun e w' => e = .returned (.int .i64 ((p : Int) + 1)) ∧ W = w') := hide (fun W => by
                have := l1Meet_n (p + 1) k W (by omega) (by omega)
                rw [hin, hpc] at this
                exact this)
              obtain ⟨y, HY⟩ : ∃ y, Hid (gV xs (p + 1) = y) := ⟨_, hide rfl⟩
              have hyr := HRR.out (p + 1) (by omega)
              rw [HY.out] at hyr
              have hcy := hS.cellAt (grpAll_at (xs := xs) (k := k) (j := p + 1) (by omega))
              rw [HY.out] at hcy
              by_cases hm : y = -1
              · subst hm
                have H3 := hide (gBest_not HB.out (.inr HY.out))
                have HS := hide hS
                have hwr : IntKind.i64.wrap ((k : Int) - ((p : Int) + 1)) = (k : Int) - ((p : Int) + 1) := IntWalk.i64_in _ (by omega)
                clear hpc hin hS
                go_wp2_with fail
                refine (HC.out _).mono ?_
                rintro e w4 ⟨rfl, rfl⟩
                go_wp2_with fail
                refine (HC.out _).mono ?_
                rintro e w4 ⟨rfl, rfl⟩
                go_wp2_with fail
                go_roundw
                case rel => exact ⟨p + 1, v, by omega, by go_num, rfl, hv0, hv1, H3, HS.out, hb⟩
                case measure => simp [intOf]; omega
              · have hrin := rest_within k (Nat.le_refl _) hin
                have hy0 : sumL (gSub xs (p + 1)) = 0 := (gV_not (by omega)).1 (by rw [HY.out]; exact hm)
                have hy1 : 1 ≤ y := by have := HPOS.out (p + 1) (by omega) hy0; rwa [HY.out] at this
                have hz0 : sumL (gSub xs (k - (p + 1))) = 0 := by
                  have := (gSub_shuf xs hin).sum
                  have := HZ.out
                  omega
                obtain ⟨z, HZV⟩ : ∃ z, Hid (gV xs (k - (p + 1)) = z) := ⟨_, hide rfl⟩
                have hz1 : 1 ≤ z := by have := HPOS.out (k - (p + 1)) (by omega) hz0; rwa [HZV.out] at this
                have hzr := HRR.out (k - (p + 1)) (by omega)
                rw [HZV.out] at hzr
                have hcz := hS.cellAt (grpAll_at (xs := xs) (k := k) (j := k - (p + 1)) (by omega))
                rw [HZV.out] at hcz
                obtain ⟨r, hr⟩ : ∃ r : Nat, r = k - (p + 1) := ⟨_, rfl⟩
                rw [← hr] at hcz
                have hr2 : (k : Int) - ((p : Int) + 1) = r := by omega
                have hr0 : (0 : Int) ≤ r := by omega
                have hr1 : (r : Int) < k := by omega
                have HST := hide (gBest_yes HB.out hin HY.out HZV.out hm)
                have hw5 : IntKind.i64.wrap (y + z) = y + z := IntWalk.i64_in _ (by omega)
                have HS := hide hS
                clear hpc hin hm hrin hr hS hy0 hz0
                have H3 : Hid (gBest (gV xs) k (p + 1) = if v < y + z then y + z else v) := hide (by rw [HST.out]; split <;> split <;> omega)
                go_wp2_with fail
                refine (HC.out _).mono ?_
                rintro e w4 ⟨rfl, rfl⟩
                go_wp2_with fail
                refine (HC.out _).mono ?_
                rintro e w4 ⟨rfl, rfl⟩
                go_wp2_with fail
                go_quiet (fail)
                go_wp2_with fail
                go_roundw
                case rel => exact ⟨p + 1, if v < y + z then y + z else v, by omega, by go_num, rfl, by split <;> omega, by split <;> omega, H3, HS.out, below_drewN hb _⟩
                case measure => simp [intOf]; omega
            · have hle : (p + 1) &&& k ≤ p + 1 := Nat.and_le_left
              obtain ⟨q, hq⟩ : ∃ q : Nat, (p + 1) &&& k = q := ⟨_, rfl⟩
              have HC : Hid (∀ W, Calls Tryd.prog 118 #[.int .i64 ((p : Int) + 1), .int .i64 (k : Int)] W fun e w' => e = .returned (.int .i64 (q : Int)) ∧ W = w') := hide (fun W => by
                have := l1Meet_n (p + 1) k W (by omega) (by omega)
                rw [hq, hpc] at this
                exact this)
              have H3 := hide (gBest_not HB.out (.inl hin))
              rw [hq] at hle hin
              have hqb : ((q : Int) == (p : Int) + 1) = false := by simp; omega
              have hq0 : (0 : Int) ≤ q := by omega
              have hwr : IntKind.i64.wrap ((k : Int) - (q : Int)) = (k : Int) - (q : Int) := IntWalk.i64_in _ (by omega)
              have HS := hide hS
              clear hpc hin hq hS
              go_wp2_with fail
              refine (HC.out _).mono ?_
              rintro e w4 ⟨rfl, rfl⟩
              go_wp2_with fail
              refine (HC.out _).mono ?_
              rintro e w4 ⟨rfl, rfl⟩
              go_wp2_with fail
              go_roundw
              case rel => exact ⟨p + 1, v, by omega, by go_num, rfl, hv0, hv1, H3, HS.out, hb⟩
              case measure => simp [intOf]; omega
          · obtain rfl : k = p + 1 := by omega
            have HE : Hid (grpAll xs (p + 1) ++ [v] = grpAll xs (p + 1 + 1)) := hide (by rw [← grpAll_snoc xs (p + 1), HVK.out, show p + 1 - 1 = p from rfl, HB.out])
            have hlen : (grpAll xs (p + 1)).length ≤ 128 := by rw [grpAll_len]; omega
            have HSA := hide (World.ownsRow.alloc hS (.cells #[.int .i64 v] 3))
            have HBA := hide (hb.alloc hsz (.cells #[.int .i64 v] 3))
            have HLTS := hide (World.ownsRow.lt hS)
            have HL := hide (grpAll_len xs (p + 1))
            clear hS
            go_wp2_with (at_builtin; refine wpList_push_int rfl _ _ rfl w.heap.size (.slice (some ⟨g, 0, none⟩) (p + 1) cap) (grpAll xs (p + 1)) rfl HSA.out wr.heap.size v rfl (heap_alloc_new wr _) (by omega) (by simp; omega) ?_; intro g5 cap5 w5 hown hgrow hnew)
            have hb5 : Below w.heap.size w w5 := HBA.out.grown hgrow (by simp; omega) (fun k hk => (HLTS.out k hk).1)
            rw [HE.out, HL.out] at hown
            rw [HL.out]
            clear hgrow hnew
            go_wp2_with fail
            go_roundw
            case rel => exact ⟨p + 1 + 1, g5, cap5, by omega, by omega, by go_num, rfl, hown, hb5⟩
            case measure => simp [intOf]; omega
      · obtain ⟨sm, hsm⟩ : ∃ sm, sumL (gSub xs k) = sm := ⟨_, rfl⟩
        have HSMV := hide hsm
        have HE : Hid (grpAll xs k ++ [-1] = grpAll xs (k + 1)) := hide (by rw [← grpAll_snoc, gV_none hz])
        have hlen : (grpAll xs k).length ≤ 128 := by rw [grpAll_len]; omega
        rw [hsm] at hz
        have hzb : (sm == 0) = false := by simpa using hz
        have HL := hide (grpAll_len xs k)
        clear hz hsm
        go_wp2_with fail
        refine (HSM.out _ (hA.below hb)).mono ?_
        rintro e w3 ⟨rfl, hB3⟩
        rw [HSMV.out]
        have hS3 := IntSl.below hS hB3
        have hb3 := next hb hB3
        have hsz3 := hb3.size
        have HSA := hide (World.ownsRow.alloc hS3 (.cells #[.int .i64 (-1)] 3))
        have HBA := hide (hb3.alloc hsz3 (.cells #[.int .i64 (-1)] 3))
        have HLTS := hide (World.ownsRow.lt hS3)
        clear hS hS3 hB3 hb hsz
        go_wp2_with (at_builtin; refine wpList_push_int rfl _ _ rfl w.heap.size (.slice (some ⟨g, 0, none⟩) k cap) (grpAll xs k) rfl HSA.out w3.heap.size (-1) rfl (heap_alloc_new w3 _) (by omega) (by simp; omega) ?_; intro g5 cap5 w5 hown hgrow hnew)
        have hb5 : Below w.heap.size w w5 := HBA.out.grown hgrow (by simp; omega) (fun k hk => (HLTS.out k hk).1)
        rw [HE.out, HL.out] at hown
        rw [HL.out]
        clear hgrow hnew
        go_wp2_with fail
        go_roundw
        case rel => exact ⟨k + 1, g5, cap5, by omega, by omega, by go_num, rfl, hown, hb5⟩
        case measure => simp [intOf]; omega
    · obtain rfl : k = N := by omega
      have HS := hide hS
      clear hS
      go_wp2_with fail
      exact bodyPost_ret (results_tmp rfl _ _ _) rfl ⟨_, _, rfl, HS.out, hb⟩

theorem groups_open {xs : List Int} (h : owedOk xs = true) : groupsMostL xs = gV (gOpen xs) (2 ^ (gOpen xs).length - 1) := by
  unfold groupsMostL gMost
  rw [if_pos h]
  have hp := Nat.one_le_two_pow (n := (gOpen xs).length)
  exact gV_same (gSet_lt xs) (by omega) (by rw [gSub_set, gSub_full])
theorem gOpen_step {xs : List Int} {k : Nat} {x : Int} (h : xs.drop k = x :: xs.drop (k + 1)) : gOpen (xs.drop k) = if (x != 0) = true then x :: gOpen (xs.drop (k + 1)) else gOpen (xs.drop (k + 1)) := by
  rw [h]
  unfold gOpen
  rw [List.filter_cons]
theorem gOpen_rng {xs : List Int} (h : ∀ y ∈ xs, -9999 ≤ y ∧ y ≤ 9999) : ∀ y ∈ gOpen xs, -9999 ≤ y ∧ y ≤ 9999 := fun y hy => h y (List.mem_filter.1 hy).1

set_option maxRecDepth 100000 in
set_option maxHeartbeats 2000000 in
theorem specGroupsMost_any (A : Option Addr) (c : Nat) (xs : List Int) (w : World) (hA : IntsAt w A xs) (hl : xs.length ≤ 1048576) :
    Calls Tryd.prog 41 #[.slice A xs.length c] w fun e w' => e = .returned (.int .i64 (groupsMostL xs)) ∧ Below w.heap.size w w' := by
  cases hI : owedOk xs with
  | false =>
    have HI := hide hI
    have HR : Hid (groupsMostL xs = -1) := hide (by unfold groupsMostL; rw [hI]; rfl)
    clear hI
    go_enter Tryd.func41, Tryd.ntmps41
    go_wp2_with fail
    refine (specOwedValid_any _ _ _ _ hA hl).mono ?_
    rintro e w1 ⟨rfl, hB1⟩
    rw [HI.out]
    go_wp2_with fail
    go_ret
    exact ⟨by rw [HR.out]; rfl, hB1⟩
  | true =>
    have HI := hide hI
    have h7 := owedOk_len hI
    have HGO := hide (groups_open hI)
    have HRNG : Hid (∀ y ∈ gOpen xs, -9999 ≤ y ∧ y ≤ 9999) := hide (gOpen_rng (FInv.start hI).rng)
    clear hI
    go_enter Tryd.func41, Tryd.ntmps41
    go_wp2_with fail
    refine (specOwedValid_any _ _ _ _ hA hl).mono ?_
    rintro e w1 ⟨rfl, hB1⟩
    rw [HI.out]
    have hsz1 := hB1.size
    have HO : Hid (IntSl (w1.alloc (.cells #[] 3)) w.heap.size (.slice (some ⟨w1.heap.size, 0, none⟩) 0 0) []) := hide (World.ownsRow_lit w1 #[] 0 hsz1 (by unfold maxLen; omega) rfl)
    have HB0 : Hid (Below w.heap.size w (w1.alloc (.cells #[] 3))) := hide (hB1.alloc hsz1 _)
    go_wp2_with fail
    go_loopw [3, 4] (fun v i wr => ∃ (k : Nat) (ys : List Int), k ≤ xs.length ∧ ys.length ≤ k ∧ i = .int .i64 k ∧ IntSl wr w.heap.size v ys ∧ Hid (gOpen xs = ys ++ gOpen (xs.drop k)) ∧ Below w.heap.size w wr) (fun _ i _ => xs.length - (intOf i).toNat)
    case atStart => exact ⟨0, [], by omega, by simp, rfl, HO.out, hide rfl, HB0.out⟩
    case round =>
      clear HO HB0 hB1 hsz1
      obtain ⟨k, ys, hk, hyk, rfl, hS, HG, hb⟩ := hrel
      have hsz := hb.size
      by_cases hlt : k < xs.length
      · obtain ⟨b, off, rfl, hbl, hc1⟩ := (hA.below hb) k xs[k] (List.getElem?_eq_getElem hlt)
        have HST := hide (gOpen_step (List.drop_eq_getElem_cons hlt))
        generalize xs[k] = x at *
        have hz : (0 : Int) ≤ k := by omega
        have hz2 : (k : Int) < xs.length := by omega
        cases hx : (x != 0) with
        | false =>
          have H3 : Hid (gOpen xs = ys ++ gOpen (xs.drop (k + 1))) := hide (by rw [HG.out, HST.out, hx]; rfl)
          have HS := hide hS
          clear hS
          go_wp2_with fail
          go_roundw
          case rel => exact ⟨k + 1, ys, hlt, by omega, by go_num, HS.out, H3, hb⟩
          case measure => simp [intOf]; omega
        | true =>
          have H3 : Hid (gOpen xs = (ys ++ [x]) ++ gOpen (xs.drop (k + 1))) := hide (by rw [HG.out, HST.out, hx, List.append_assoc]; rfl)
          have HSA := hide (World.ownsRow.alloc hS (.cells #[.int .i64 x] 3))
          have HBA := hide (hb.alloc hsz (.cells #[.int .i64 x] 3))
          have HLTS := hide (World.ownsRow.lt hS)
          clear hS
          go_wp2_with (at_builtin; refine wpList_push_int rfl _ _ rfl w.heap.size u3 ys rfl HSA.out wr.heap.size x rfl (heap_alloc_new wr _) (by omega) (by simp; omega) ?_; intro g5 cap5 w5 hown hgrow hnew)
          have hb5 : Below w.heap.size w w5 := HBA.out.grown hgrow (by simp; omega) (fun k hk => (HLTS.out k hk).1)
          clear hgrow hnew
          go_wp2_with fail
          go_roundw
          case rel => exact ⟨k + 1, ys ++ [x], hlt, by simp; omega, by go_num, by simpa using hown, H3, hb5⟩
          case measure => simp [intOf]; omega
      · have H3 : Hid (gOpen xs = ys) := hide (by rw [HG.out, List.drop_of_length_le (by omega)]; simp [gOpen])
        have hy7 : ys.length ≤ 7 := by omega
        obtain ⟨i, hi⟩ : ∃ i : Nat, 2 ^ ys.length = i + 1 := ⟨2 ^ ys.length - 1, by have := Nat.one_le_two_pow (n := ys.length); omega⟩
        have HN : Hid (i + 1 = 2 ^ ys.length) := hide hi.symm
        have hi128 : i < 128 := by
          have a : (2 : Nat) ^ ys.length ≤ 2 ^ 7 := Nat.pow_le_pow_right (by omega) hy7
          have b : (2 : Nat) ^ 7 = 128 := rfl
          omega
        obtain ⟨y, HY⟩ : ∃ y, Hid (gV ys i = y) := ⟨_, hide rfl⟩
        have HR : Hid (groupsMostL xs = y) := hide (by rw [HGO.out, H3.out, hi, show i + 1 - 1 = i from rfl, HY.out])
        obtain ⟨Ao, co, hv, hI4, -⟩ := hS.form
        subst hv
        have hi0 : (0 : Int) ≤ i := by omega
        clear hS hi
        go_wp2_with fail
        refine (l5Groups_any Ao co ys (i + 1) _ hI4 hy7 (hide (by rw [← H3.out]; exact HRNG.out)) HN).mono ?_
        rintro e w4 ⟨g4, c4, rfl, hS4, hB4⟩
        have hb4 := next hb hB4
        have hcell := hS4.cellAt (grpAll_at (xs := ys) (k := i + 1) (j := i) (by omega))
        rw [HY.out] at hcell
        clear hS4 hI4
        go_wp2_with fail
        go_ret
        exact ⟨by rw [HR.out]; rfl, hb4⟩

theorem nz_step {xs : List Int} {k : Nat} {x : Int} (h : xs.drop k = x :: xs.drop (k + 1)) : nz (xs.drop k) = nz (xs.drop (k + 1)) + (if (x != 0) = true then 1 else 0) := by
  rw [h]
  unfold nz
  rw [List.countP_cons]

set_option maxHeartbeats 1000000 in
theorem specSettleLeast_any (A : Option Addr) (c : Nat) (xs : List Int) (w : World) (hA : IntsAt w A xs) (hl : xs.length ≤ 1048576) :
    Calls Tryd.prog 43 #[.slice A xs.length c] w fun e w' => e = .returned (.int .i64 (settleLeastL xs)) ∧ Below w.heap.size w w' := by
  cases hI : owedOk xs with
  | false =>
    have HI := hide hI
    have HR : Hid (settleLeastL xs = -1) := hide (by unfold settleLeastL; rw [hI]; rfl)
    clear hI
    go_enter Tryd.func43, Tryd.ntmps43
    go_wp2_with fail
    refine (specOwedValid_any _ _ _ _ hA hl).mono ?_
    rintro e w1 ⟨rfl, hB1⟩
    rw [HI.out]
    go_wp2_with fail
    go_ret
    exact ⟨by rw [HR.out]; rfl, hB1⟩
  | true =>
    have HI := hide hI
    have h7 := owedOk_len hI
    obtain ⟨y, hy⟩ : ∃ y : Int, groupsMostL xs = y := ⟨_, rfl⟩
    have HY := hide hy
    have hyr : -1 ≤ y ∧ y ≤ 7 := by
      rw [← hy]
      unfold groupsMostL
      rw [if_pos hI]
      exact gV_7 h7 (gSet_lt xs)
    have hy0 := hyr.1
    have hy1 := hyr.2
    have HR : Hid (settleLeastL xs = (nz xs : Int) - y) := hide (by unfold settleLeastL; rw [if_pos hI, ← hy]; unfold groupsMostL; rw [if_pos hI])
    clear hI hy hyr
    go_enter Tryd.func43, Tryd.ntmps43
    go_wp2_with fail
    refine (specOwedValid_any _ _ _ _ hA hl).mono ?_
    rintro e w1 ⟨rfl, hB1⟩
    rw [HI.out]
    go_wp2_with fail
    go_loopw [3, 4] (fun nv i wr => ∃ (k n : Nat), k ≤ xs.length ∧ n ≤ k ∧ i = .int .i64 k ∧ nv = .int .i64 n ∧ Hid (nz xs = n + nz (xs.drop k)) ∧ Below w.heap.size w wr) (fun _ i _ => xs.length - (intOf i).toNat)
    case atStart => exact ⟨0, 0, by omega, by omega, rfl, rfl, hide (by simp), hB1⟩
    case round =>
      clear hB1
      obtain ⟨k, n, hk, hnk, rfl, rfl, HG, hb⟩ := hrel
      have hsz := hb.size
      by_cases hlt : k < xs.length
      · obtain ⟨b, off, rfl, hbl, hc1⟩ := (hA.below hb) k xs[k] (List.getElem?_eq_getElem hlt)
        have HST := hide (nz_step (List.drop_eq_getElem_cons hlt))
        generalize xs[k] = x at *
        have hz : (0 : Int) ≤ k := by omega
        have hz2 : (k : Int) < xs.length := by omega
        cases hx : (x != 0) with
        | false =>
          have H3 : Hid (nz xs = n + nz (xs.drop (k + 1))) := hide (by rw [HG.out, HST.out, hx]; rfl)
          go_wp2_with fail
          go_roundw
          case rel => exact ⟨k + 1, n, hlt, by omega, by go_num, rfl, H3, hb⟩
          case measure => simp [intOf]; omega
        | true =>
          have H3 : Hid (nz xs = (n + 1) + nz (xs.drop (k + 1))) := hide (by rw [HG.out, HST.out, hx, if_pos rfl]; omega)
          go_wp2_with fail
          go_roundw
          case rel => exact ⟨k + 1, n + 1, hlt, by omega, by go_num, by go_num, H3, hb⟩
          case measure => simp [intOf]; omega
      · have H3 : Hid (settleLeastL xs = (n : Int) - y) := hide (by
          have e : nz ([] : List Int) = 0 := rfl
          rw [HR.out, HG.out, List.drop_of_length_le (by omega), e, Nat.add_zero])
        go_wp2_with fail
        refine (specGroupsMost_any _ _ _ _ (hA.below hb) hl).mono ?_
        rintro e w4 ⟨rfl, hB4⟩
        rw [HY.out]
        have hb4 := next hb hB4
        go_wp2_with fail
        go_ret
        exact ⟨by rw [H3.out]; rfl, hb4⟩
end Go.Proofs.YtgagfaajilbmmaaDoor

namespace Go.Proofs.YtgagfaajilbmmaaDoor
open Go.RowKit Go.ChangeShapes Go.WideShapes Go.ChangeAt Go.Deep

theorem l1Meet_s (a b : Nat) (w : World) (ha : a < 128) (hb : b < 128) :
    Calls Tryd.prog 118 #[.int .i64 a, .int .i64 b] w fun e w' => e = .returned (.int .i64 ((a &&& b : Nat) : Int)) ∧ w' = w := (l1Meet_n a b w ha hb).mono fun _ _ h => ⟨h.1, h.2.symm⟩

set_option maxRecDepth 100000 in
set_option maxHeartbeats 4000000 in
theorem l5First_any (v0 : Value) (A : Option Addr) (c : Nat) (T : List Int) (xs : List Int) (s : Nat) (w : World) (hA : IntsAt w A T) (hs0 : 0 < s) (hs : s < 128) (hT : s < T.length) (hTl : T.length ≤ 128) (HV : Hid (∀ p, p ≤ s → p &&& s = p → T[p]? = some (gV xs p))) (HR : Hid (∀ p, p ≤ s → -1 ≤ gV xs p ∧ gV xs p ≤ 7)) :
    Calls Tryd.prog 96 #[v0, .slice A T.length c, .int .i64 s] w fun e w' => e = .returned (.int .i64 (gFirst xs s : Int)) ∧ Below w.heap.size w w' := by
  have hs1 : (s : Int) < T.length := by omega
  have hs2 : (0 : Int) ≤ s := by omega
  obtain ⟨u, HU⟩ : ∃ u, Hid (gV xs s = u) := ⟨_, hide rfl⟩
  have hur := HR.out s (Nat.le_refl _)
  have huv := HV.out s (Nat.le_refl _) (within_self s)
  rw [HU.out] at hur huv
  have HUV := hide huv
  have hwu : IntKind.i64.wrap (u - 1) = u - 1 := IntWalk.i64_in _ (by omega)
  clear huv
  go_enter Tryd.func96, Tryd.ntmps96
  go_wp2_with fail
  go_loopw [7] (fun gv wr => ∃ (g : Nat), 1 ≤ g ∧ g ≤ s + 1 ∧ gv = .int .i64 (g : Int) ∧ Hid (gFirst xs s = gFirstGo xs s (s - g) g) ∧ Below w.heap.size w wr) (fun gv _ => (s + 1 - (intOf gv).toNat))
  case atStart => exact ⟨1, by omega, by omega, rfl, hide rfl, Below.refl _ _⟩
  case round =>
    obtain ⟨g, hg1, hgs, rfl, HG, hb⟩ := hrel
    have hsz := hb.size
    by_cases hlt : g < s
    · have hg0 : (0 : Int) ≤ g := by omega
      have hg2 : (g : Int) ≤ s := by omega
      have hg3 : (g : Int) < T.length := by omega
      have hgsb : ((g : Int) == (s : Int)) = false := by simp; omega
      have HST : Hid (gFirstGo xs s (s - g) g = if gCond xs s g = true then g else gFirstGo xs s (s - (g + 1)) (g + 1)) := hide (by
        rw [show s - g = (s - (g + 1)) + 1 from by omega, gFirstGo])
      by_cases hin : g &&& s = g
      · have HC : Hid (∀ W, Calls Tryd.prog 118 #[.int .i64 (g : Int), .int .i64 (s : Int)] W fun e w' => e = .returned (.int .i64 (g : Int)) ∧ w' = W) := hide (fun W => by
          have := l1Meet_s g s W (by omega) hs
          rwa [hin] at this)
        obtain ⟨y, HY⟩ : ∃ y, Hid (gV xs g = y) := ⟨_, hide rfl⟩
        have hy := HV.out g (by omega) hin
        rw [HY.out] at hy
        obtain ⟨b, off, rfl, hbl, hcy⟩ := (hA.below hb) g y hy
        have hrin := rest_within s (Nat.le_refl _) hin
        obtain ⟨z, HZ⟩ : ∃ z, Hid (gV xs (s - g) = z) := ⟨_, hide rfl⟩
        have hz := HV.out (s - g) (by omega) hrin
        rw [HZ.out] at hz
        have hzr := HR.out (s - g) (by omega)
        rw [HZ.out] at hzr
        have HCD := hide (gCond_yes hin HY.out HZ.out HU.out)
        by_cases hy1 : y = 1
        · have hyb : (y == 1) = true := by simpa using hy1
          obtain ⟨b', off', e', -, hcz⟩ := (hA.below hb) (s - g) z hz
          injection e' with e'
          injection e' with e1 e2
          subst e1 e2
          obtain ⟨b', off', e', -, hcu⟩ := (hA.below hb) s u HUV.out
          injection e' with e'
          injection e' with e1 e2
          subst e1 e2
          obtain ⟨r, hr⟩ : ∃ r : Nat, r = s - g := ⟨_, rfl⟩
          rw [← hr] at hcz
          have hr2 : (s : Int) - (g : Int) = (r : Int) := by omega
          have hwr : IntKind.i64.wrap ((s : Int) - (g : Int)) = (r : Int) := by rw [hr2]; exact IntWalk.i64_in _ (by omega)
          have hr0 : (0 : Int) ≤ r := by omega
          have hr1 : (r : Int) < T.length := by omega
          clear hy hz hin hrin hr hr2
          by_cases hzu : z = u - 1
          · have hzb : (z == u - 1) = true := by simpa using hzu
            have H3 : Hid (gFirst xs s = g) := hide (by rw [HG.out, HST.out, HCD.out, hyb, hzb]; rfl)
            clear hzu hy1
            go_wp2_with fail
            go_quiet ((go_at_call 118; exact Calls.quiet_of_same (HC.out _)))
            go_wp2_with fail
            go_ret
            exact ⟨by rw [H3.out]; rfl, below_drewN hb _⟩
          · have hzb : (z == u - 1) = false := by simpa using hzu
            have H3 : Hid (gFirst xs s = gFirstGo xs s (s - (g + 1)) (g + 1)) := hide (by rw [HG.out, HST.out, HCD.out, hyb, hzb]; rfl)
            clear hzu hy1
            go_wp2_with fail
            go_quiet ((go_at_call 118; exact Calls.quiet_of_same (HC.out _)))
            go_wp2_with fail
            go_roundw
            case rel => exact ⟨g + 1, by omega, by omega, by go_num, H3, below_drewN hb _⟩
            case measure => simp [intOf]; omega
        · have hyb : (y == 1) = false := by simpa using hy1
          have H3 : Hid (gFirst xs s = gFirstGo xs s (s - (g + 1)) (g + 1)) := hide (by rw [HG.out, HST.out, HCD.out, hyb]; rfl)
          clear hy hz hin hrin hy1
          go_wp2_with fail
          go_quiet ((go_at_call 118; exact Calls.quiet_of_same (HC.out _)))
          go_wp2_with fail
          go_roundw
          case rel => exact ⟨g + 1, by omega, by omega, by go_num, H3, below_drewN hb _⟩
          case measure => simp [intOf]; omega
      · obtain ⟨q, hq⟩ : ∃ q : Nat, g &&& s = q := ⟨_, rfl⟩
        have HC : Hid (∀ W, Calls Tryd.prog 118 #[.int .i64 (g : Int), .int .i64 (s : Int)] W fun e w' => e = .returned (.int .i64 (q : Int)) ∧ w' = W) := hide (fun W => by
          have := l1Meet_s g s W (by omega) hs
          rwa [hq] at this)
        have H3 : Hid (gFirst xs s = gFirstGo xs s (s - (g + 1)) (g + 1)) := hide (by rw [HG.out, HST.out, gCond_not hin]; rfl)
        have hqb : ((q : Int) == (g : Int)) = false := by rw [hq] at hin; simp; omega
        clear hin hq
        go_wp2_with fail
        go_quiet ((go_at_call 118; exact Calls.quiet_of_same (HC.out _)))
        go_wp2_with fail
        go_roundw
        case rel => exact ⟨g + 1, by omega, by omega, by go_num, H3, below_drewN hb _⟩
        case measure => simp [intOf]; omega
    · have H3 : Hid (gFirst xs s = s) := hide (by rw [HG.out, show s - g = 0 from by omega]; rfl)
      by_cases hge : g = s
      · subst hge
        have HC : Hid (∀ W, Calls Tryd.prog 118 #[.int .i64 (g : Int), .int .i64 (g : Int)] W fun e w' => e = .returned (.int .i64 (g : Int)) ∧ w' = W) := hide (fun W => by
          have := l1Meet_s g g W hs hs
          rwa [within_self] at this)
        obtain ⟨b, off, rfl, hbl, hcy⟩ := (hA.below hb) g u HUV.out
        have H4 : Hid (gFirst xs g = gFirstGo xs g (g - (g + 1)) (g + 1)) := hide (by rw [H3.out, show g - (g + 1) = 0 from by omega]; rfl)
        by_cases hu1 : u = 1
        · have hub : (u == 1) = true := by simpa using hu1
          clear hu1
          go_wp2_with fail
          go_quiet ((go_at_call 118; exact Calls.quiet_of_same (HC.out _)))
          go_wp2_with fail
          go_ret
          exact ⟨by rw [H3.out]; rfl, below_drewN hb _⟩
        · have hub : (u == 1) = false := by simpa using hu1
          clear hu1
          go_wp2_with fail
          go_quiet ((go_at_call 118; exact Calls.quiet_of_same (HC.out _)))
          go_wp2_with fail
          go_roundw
          case rel => exact ⟨g + 1, by omega, by omega, by go_num, H4, below_drewN hb _⟩
          case measure => simp [intOf] <;> omega
      · have hgt : ¬ ((g : Int) ≤ s) := by omega
        go_wp2_with fail
        go_ret
        exact ⟨by rw [H3.out]; rfl, hb⟩

/-- What the table of clean sets holds. -/
def cleanAt (xs : List Int) (s : Nat) : Int := if sumL (gSub xs s) = 0 then groupsMostL (gSub xs s) else -1
theorem gSub_mem : ∀ (xs : List Int) (s : Nat), ∀ y ∈ gSub xs s, y ∈ xs
  | [], _, y, h => by simp [gSub] at h
  | x :: r, s, y, h => by
    rw [gSub] at h
    split at h
    · rcases List.mem_cons.1 h with rfl | h
      · simp
      · exact List.mem_cons_of_mem _ (gSub_mem r _ y h)
    · exact List.mem_cons_of_mem _ (gSub_mem r _ y h)
theorem gSub_ok {xs : List Int} {s : Nat} (h : owedOk xs = true) (h0 : sumL (gSub xs s) = 0) : owedOk (gSub xs s) = true :=
  owedOk_of (by have := gSub_len xs s; have := owedOk_len h; omega) (fun y hy => (FInv.start h).rng y (gSub_mem xs s y hy)) h0
theorem cleanAt_open {xs : List Int} {s : Nat} (hok : owedOk xs = true) (hs : s &&& gSet xs = s) : cleanAt xs s = gV xs s := by
  unfold cleanAt
  by_cases h0 : sumL (gSub xs s) = 0
  · rw [if_pos h0, gV_set (gSub_ok hok h0)]
    refine gV_same (gSet_lt _) (gSub_lt hs) ?_
    rw [gSub_set]
    unfold gOpen
    rw [List.filter_eq_self]
    intro y hy
    have := gSub_nz xs s hs y hy
    simpa using this
  · rw [if_neg h0, gV_none h0]
theorem cleanAt_7 {xs : List Int} {s : Nat} (hok : owedOk xs = true) (h0 : sumL (gSub xs s) = 0) : 0 ≤ groupsMostL (gSub xs s) ∧ groupsMostL (gSub xs s) ≤ 7 := by
  have h := gSub_ok hok h0
  have h1 := gMost_nonneg h
  have h2 := gV_7 (owedOk_len h) (gSet_lt (gSub xs s))
  have e : groupsMostL (gSub xs s) = gMost (gSub xs s) := by unfold groupsMostL; rw [if_pos h]
  have e2 : gMost (gSub xs s) = gV (gSub xs s) (gSet (gSub xs s)) := rfl
  omega
def cleanTo (xs : List Int) (k : Nat) : List Int := tab k (cleanAt xs)
theorem cleanTo_len (xs : List Int) (k : Nat) : (cleanTo xs k).length = k := tab_len _ _
theorem cleanTo_at {xs : List Int} {k j : Nat} (h : j < k) : (cleanTo xs k)[j]? = some (cleanAt xs j) := by unfold cleanTo; rw [tab_at h]
theorem cleanTo_snoc (xs : List Int) (k : Nat) : cleanTo xs k ++ [cleanAt xs k] = cleanTo xs (k + 1) := tab_snoc _ _
theorem gSet_step {xs : List Int} {k : Nat} {x : Int} (h : xs.drop k = x :: xs.drop (k + 1)) : (2 ^ k * gSet (xs.drop k) : Nat) = (if (x != 0) = true then 2 ^ k else 0) + 2 ^ (k + 1) * gSet (xs.drop (k + 1)) := by
  rw [h, gSet, Nat.mul_add, Nat.pow_succ, Nat.mul_assoc]
  congr 1
  split <;> simp
theorem gSet_low (xs : List Int) (k : Nat) : gSet (xs.take k) < 2 ^ k := by
  have a := gSet_lt (xs.take k)
  have b : (2 : Nat) ^ (xs.take k).length ≤ 2 ^ k := Nat.pow_le_pow_right (by omega) (by rw [List.length_take]; omega)
  omega

set_option maxRecDepth 100000 in
set_option maxHeartbeats 8000000 in
theorem specSettleBest_any (A : Option Addr) (c : Nat) (xs : List Int) (w : World) (hA : IntsAt w A xs) (hl : xs.length ≤ 1048576) :
    Calls Tryd.prog 48 #[.slice A xs.length c] w fun e w' => ∃ v, e = .returned v ∧ PaySl w' w.heap.size v (settleBestL xs) ∧ Below w.heap.size w w' := by
  have hO0 : PaySl (w.alloc (.cells #[] 65)) w.heap.size (.slice (some ⟨w.heap.size, 0, none⟩) 0 0) [] := World.ownsRow_lit w #[] 0 (Nat.le_refl _) (by unfold maxLen; omega) rfl
  have HO0 := hide hO0
  have hba : Below w.heap.size w (w.alloc (.cells #[] 65)) := by go_grown
  have hA0 := hA.below hba
  clear hO0
  cases hI : owedOk xs with
  | false =>
    have HI := hide hI
    have HR : Hid (settleBestL xs = []) := hide (by unfold settleBestL; rw [hI]; rfl)
    clear hI
    go_enter Tryd.func48, Tryd.ntmps48
    go_wp2_with fail
    refine (specOwedValid_any _ _ _ _ hA0 hl).mono ?_
    rintro e w1 ⟨rfl, hB1⟩
    have HP1 := hide (PaySl.below HO0.out hB1)
    have hb1 := next hba hB1
    rw [HI.out]
    go_wp2_with fail
    refine bodyPost_ret (results_tmp rfl _ _ _) rfl ⟨_, rfl, by rw [HR.out]; exact HP1.out, hb1⟩
  | true =>
    have HI := hide hI
    have h7 := owedOk_len hI
    obtain ⟨i, hi⟩ : ∃ i : Nat, gSet xs = i := ⟨_, rfl⟩
    have HG := hide hi
    have hi128 : i < 128 := by rw [← hi]; exact gSet_128 h7
    obtain ⟨N, hN⟩ : ∃ N : Nat, 2 ^ xs.length = N := ⟨_, rfl⟩
    have HN : Hid (N = 2 ^ xs.length) := hide hN.symm
    have hN128 : N ≤ 128 := by
      have a : (2 : Nat) ^ xs.length ≤ 2 ^ 7 := Nat.pow_le_pow_right (by omega) h7
      have b : (2 : Nat) ^ 7 = 128 := rfl
      omega
    have hiN : i < N := by rw [← hi, ← hN]; exact gSet_lt xs
    have HR : Hid (settleBestL xs = [] ++ groupGo xs i i) := hide (by unfold settleBestL; rw [if_pos hI, hi]; rfl)
    have HS0 : Hid (sumL (gSub xs i) = 0) := hide (by rw [← hi]; exact owed_sum0 hI)
    have HLT : Hid (∀ s, s < N → s < 2 ^ xs.length) := hide (fun s hs => by rw [hN]; exact hs)
    have HL7 := hide (gSub_len xs i)
    have HRNG := hide (FInv.start hI).rng
    have hmk := make_ints xs.length (by omega)
    have HZ0 := hide (fun (W : World) => zeros_tabG W (lo := W.heap.size) xs.length (Nat.le_refl _) (by omega))
    have HMK := hide hmk
    clear hI hi hN hmk
    go_enter Tryd.func48, Tryd.ntmps48
    go_wp2_with fail
    refine (specOwedValid_any _ _ _ _ hA0 hl).mono ?_
    rintro e w1 ⟨rfl, hB1⟩
    have HP1 := hide (PaySl.below HO0.out hB1)
    have hb1 := next hba hB1
    rw [HI.out]
    clear HO0 hba hA0 hB1
    go_wp2_with fail
    go_loopw [4, 5] (fun pv iv wr => ∃ (k t : Nat), k ≤ xs.length ∧ iv = .int .i64 k ∧ pv = .int .i64 t ∧ Hid (t < 2 ^ k) ∧ Hid (gSet xs = t + 2 ^ k * gSet (xs.drop k)) ∧ w1 = wr) (fun _ iv _ => xs.length - (intOf iv).toNat)
    case atStart => exact ⟨0, 0, Nat.zero_le _, rfl, rfl, hide (by simp), hide (by simp), rfl⟩
    case round =>
      obtain ⟨k, t, hk, rfl, rfl, HT, HK, rfl⟩ := hrel
      by_cases hlt : k < xs.length
      · obtain ⟨b, off, rfl, hbl, hc1⟩ := (hA.below hb1) k xs[k] (List.getElem?_eq_getElem hlt)
        have HST := hide (gSet_step (List.drop_eq_getElem_cons hlt))
        generalize xs[k] = x at *
        have hz : (0 : Int) ≤ k := by omega
        have hz2 : (k : Int) < xs.length := by omega
        have hk64 : k < 64 := by omega
        have hpk := pow7 (k := k) (by omega)
        have hpk1 := hpk.1
        have hpk2 := hpk.2
        have HPC : Hid ((2 : Int) ^ k = ((2 ^ k : Nat) : Int)) := hide (by simp)
        have ht128 : (t : Int) < 128 := by have := HT.out; have := HPC.out; omega
        have HP2 : Hid ((2 : Nat) ^ (k + 1) = 2 ^ k + 2 ^ k) := hide (by rw [Nat.pow_succ]; omega)
        clear hpk
        cases hx : (x != 0) with
        | false =>
          have H3 : Hid (gSet xs = t + 2 ^ (k + 1) * gSet (xs.drop (k + 1))) := hide (by rw [HK.out, HST.out, hx]; simp)
          go_wp2_with fail
          go_roundw
          case rel => exact ⟨k + 1, t, hlt, by go_num, rfl, hide (by have := HT.out; have := HP2.out; omega), H3, trivial⟩
          case measure => simp [intOf]; omega
        | true =>
          have H3 : Hid (gSet xs = (t + 2 ^ k) + 2 ^ (k + 1) * gSet (xs.drop (k + 1))) := hide (by rw [HK.out, HST.out, hx, if_pos rfl]; omega)
          go_wp2_with fail
          go_roundw
          case rel => exact ⟨k + 1, t + 2 ^ k, hlt, by go_num, by rw [HPC.out]; go_num, hide (by have := HT.out; have := HP2.out; omega), H3, trivial⟩
          case measure => simp [intOf]; omega
      · have HTI : Hid (t = i) := hide (by
          have e := HK.out
          rw [List.drop_of_length_le (by omega), HG.out] at e
          simpa [gSet] using e.symm)
        obtain rfl : t = i := HTI.out
        clear HT HK HTI
        go_wp2_with fail
        refine (l5Groups_any A c xs N _ (hA.below hb1) h7 HRNG HN).mono ?_
        rintro e w2 ⟨gc, cc, rfl, hC2, hB2⟩
        have hb2 := next hb1 hB2
        have HP2 := hide (PaySl.below HP1.out hB2)
        have HC2 := hide hC2.ints
        have hsz2 := hb2.size
        clear hC2 hB2 HP1
        have HT0 : Hid (IntSl (w2.alloc (.cells #[] 3)) w2.heap.size (.slice (some ⟨w2.heap.size, 0, none⟩) 0 0) (cleanTo xs 0)) := hide (World.ownsRow_lit w2 #[] 0 (Nat.le_refl _) (by unfold maxLen; omega) rfl)
        have HB0 : Hid (Below w2.heap.size w2 (w2.alloc (.cells #[] 3))) := hide (by go_grown)
        go_wp2_with fail
        go_loopw [7, 8] (fun tv sv wr => ∃ (k g cap : Nat), k ≤ N ∧ sv = .int .i64 k ∧ tv = .slice (some ⟨g, 0, none⟩) k cap ∧ IntSl wr w2.heap.size (.slice (some ⟨g, 0, none⟩) k cap) (cleanTo xs k) ∧ Below w2.heap.size w2 wr) (fun _ sv _ => (N - (intOf sv).toNat))
        case atStart => exact ⟨0, w2.heap.size, 0, by omega, rfl, rfl, HT0.out, HB0.out⟩
        case round =>
          clear HT0 HB0
          obtain ⟨k, g, cap, hkN, rfl, rfl, hS, hb⟩ := hrel
          have hsz := hb.size
          by_cases hlk : k < N
          · have hk0 : (0 : Int) ≤ k := by omega
            have hk1 : (k : Int) < N := by omega
            have hO : IntSl (wr.alloc (.cells #[] 3)) wr.heap.size (.slice (some ⟨wr.heap.size, 0, none⟩) 0 0) [] := World.ownsRow_lit wr #[] 0 (Nat.le_refl _) (by unfold maxLen; omega) rfl
            have HO := hide hO
            have HB1 : Hid (Below wr.heap.size wr (wr.alloc (.cells #[] 3))) := hide (by go_grown)
            have HS := hide hS
            clear hO hS
            go_wp2_with fail
            obtain ⟨wo, rfl⟩ : ∃ wo : World, wo = wr := ⟨_, rfl⟩
            go_loopw [9, 10] (fun ov iv wr => ∃ (j : Nat) (ys : List Int), j ≤ xs.length ∧ ys.length ≤ j ∧ iv = .int .i64 j ∧ IntSl wr wo.heap.size ov ys ∧ Hid (gSub xs k = ys ++ gSub (xs.drop j) (k / 2 ^ j)) ∧ Below wo.heap.size wo wr) (fun _ iv _ => xs.length - (intOf iv).toNat)
            case atStart => exact ⟨0, [], by omega, by simp, rfl, HO.out, hide (by simp), HB1.out⟩
            case round =>
              clear HO HB1
              obtain ⟨j, ys, hj, hyj, rfl, hY, HY, hbo⟩ := hrel
              have hszo := hbo.size
              have hbw : Below w2.heap.size w2 wr := next hb hbo
              have hbw0 : Below w.heap.size w wr := next hb2 hbw
              by_cases hlj : j < xs.length
              · obtain ⟨b, off, rfl, hbl, hc1⟩ := (hA.below hbw0) j xs[j] (List.getElem?_eq_getElem hlj)
                have HD := hide (gSub_step xs k j (List.drop_eq_getElem_cons hlj))
                generalize xs[j] = x at *
                have hz : (0 : Int) ≤ j := by omega
                have hz2 : (j : Int) < xs.length := by omega
                have hk64 : j < 64 := by omega
                have hsl := shift_low k j
                have hso := shift_odd (s := k) (k := j)
                by_cases hh : k / 2 ^ j % 2 = 1
                · rw [decide_eq_true hh] at hso
                  have H3 : Hid (gSub xs k = (ys ++ [x]) ++ gSub (xs.drop (j + 1)) (k / 2 ^ (j + 1))) := hide (by rw [HY.out, HD.out, if_pos hh, List.append_assoc]; rfl)
                  have HSA := hide (World.ownsRow.alloc hY (.cells #[.int .i64 x] 3))
                  have HBA := hide (hbo.alloc hszo (.cells #[.int .i64 x] 3))
                  have HLTS := hide (World.ownsRow.lt hY)
                  clear hY hh
                  go_wp2_with (at_builtin; refine wpList_push_int rfl _ _ rfl wo.heap.size u9 ys rfl HSA.out wr.heap.size x rfl (heap_alloc_new wr _) (by omega) (by simp; omega) ?_; intro g5 cap5 w5 hown hgrow hnew)
                  have hb5 : Below wo.heap.size wo w5 := HBA.out.grown hgrow (by simp; omega) (fun k hk => (HLTS.out k hk).1)
                  clear hgrow hnew
                  go_wp2_with fail
                  go_roundw
                  case rel => exact ⟨j + 1, ys ++ [x], hlj, by simp; omega, by go_num, by simpa using hown, H3, hb5⟩
                  case measure => simp [intOf]; omega
                · rw [decide_eq_false hh] at hso
                  have H3 : Hid (gSub xs k = ys ++ gSub (xs.drop (j + 1)) (k / 2 ^ (j + 1))) := hide (by rw [HY.out, HD.out, if_neg hh])
                  have HYS := hide hY
                  clear hY hh
                  go_wp2_with fail
                  go_roundw
                  case rel => exact ⟨j + 1, ys, hlj, by omega, by go_num, HYS.out, H3, hbo⟩
                  case measure => simp [intOf]; omega
              · have H3 : Hid (gSub xs k = ys) := hide (by rw [HY.out, List.drop_of_length_le (by omega), gSub, List.append_nil])
                have hccell := (HC2.out.below hbw) k _ (grpAll_at (xs := xs) (k := N) (j := k) hlk)
                obtain ⟨y, HYV⟩ : ∃ y, Hid (gV xs k = y) := ⟨_, hide rfl⟩
                rw [HYV.out] at hccell
                obtain ⟨b5, off5, e5, hbl5, hcy⟩ := hccell
                injection e5 with e5
                injection e5 with e51 e52
                subst e51 e52
                rw [Nat.zero_add] at hcy
                have hS4 := IntSl.below HS.out hbo
                have hy7 : ys.length ≤ 7 := by omega
                obtain ⟨Ao, co, hv, hI4, -⟩ := hY.form
                subst hv
                by_cases h0 : sumL (gSub xs k) = 0
                · have hy0 : 0 ≤ y := by rw [← HYV.out]; exact gV_nonneg h0
                  have hyb : decide (0 ≤ y) = true := decide_eq_true hy0
                  obtain ⟨q, hq⟩ : ∃ q, groupsMostL ys = q := ⟨_, rfl⟩
                  have hqr := cleanAt_7 HI.out h0
                  rw [H3.out, hq] at hqr
                  have hq0 := hqr.1
                  have hq1 := hqr.2
                  have hqn : ¬ (q < 0) := by omega
                  have HE : Hid (cleanTo xs k ++ [q] = cleanTo xs (k + 1)) := hide (by rw [← cleanTo_snoc]; unfold cleanAt; rw [if_pos h0, H3.out, hq])
                  have HQ := hide hq
                  have HL := hide (cleanTo_len xs k)
                  have HS4 := hide hS4
                  clear h0 hq hqr hS4 hY
                  go_wp2_with fail
                  refine (specGroupsMost_any Ao co ys _ hI4 (by omega)).mono ?_
                  rintro e w4 ⟨rfl, hB4⟩
                  rw [HQ.out]
                  have hS5 := IntSl.below HS4.out hB4
                  have hb5 := next hbw hB4
                  have hsz5 := hb5.size
                  have HSA := hide (World.ownsRow.alloc hS5 (.cells #[.int .i64 q] 3))
                  have HBA := hide (hb5.alloc hsz5 (.cells #[.int .i64 q] 3))
                  have HLTS := hide (World.ownsRow.lt hS5)
                  clear hS5 hB4 hI4
                  go_wp2_with (at_builtin; refine wpList_push_int rfl _ _ rfl w2.heap.size (.slice (some ⟨g, 0, none⟩) k cap) (cleanTo xs k) rfl HSA.out w4.heap.size q rfl (heap_alloc_new w4 _) (by rw [HL.out]; omega) (by simp; omega) ?_; intro g5 cap5 w5 hown hgrow hnew)
                  have hb6 : Below w2.heap.size w2 w5 := HBA.out.grown hgrow (by simp; omega) (fun k hk => (HLTS.out k hk).1)
                  rw [HE.out, HL.out] at hown
                  rw [HL.out]
                  clear hgrow hnew
                  go_wp2_with fail
                  go_roundw
                  case rel => exact ⟨k + 1, g5, cap5, by omega, by go_num, rfl, hown, hb6⟩
                  case measure => simp [intOf]; omega
                · have hy0 : y = -1 := by rw [← HYV.out]; exact gV_none h0
                  subst hy0
                  have HE : Hid (cleanTo xs k ++ [-1] = cleanTo xs (k + 1)) := hide (by rw [← cleanTo_snoc]; unfold cleanAt; rw [if_neg h0])
                  have HL := hide (cleanTo_len xs k)
                  have hszw := hbw.size
                  have HSA := hide (World.ownsRow.alloc hS4 (.cells #[.int .i64 (-1)] 3))
                  have HBA := hide (hbw.alloc hszw (.cells #[.int .i64 (-1)] 3))
                  have HLTS := hide (World.ownsRow.lt hS4)
                  clear h0 hS4 hY hI4
                  go_wp2_with (at_builtin; refine wpList_push_int rfl _ _ rfl w2.heap.size (.slice (some ⟨g, 0, none⟩) k cap) (cleanTo xs k) rfl HSA.out wr.heap.size (-1) rfl (heap_alloc_new wr _) (by rw [HL.out]; omega) (by simp; omega) ?_; intro g5 cap5 w5 hown hgrow hnew)
                  have hb6 : Below w2.heap.size w2 w5 := HBA.out.grown hgrow (by simp; omega) (fun k hk => (HLTS.out k hk).1)
                  rw [HE.out, HL.out] at hown
                  rw [HL.out]
                  clear hgrow hnew
                  go_wp2_with fail
                  go_roundw
                  case rel => exact ⟨k + 1, g5, cap5, by omega, by go_num, rfl, hown, hb6⟩
                  case measure => simp [intOf]; omega
          · obtain rfl : k = N := by omega
            have HS := hide (IntSl.mono hS hsz2)
            have hbw0 : Below w.heap.size w wr := next hb2 hb
            have HP := hide (PaySl.below HP2.out hb)
            clear hS hb hsz HP2 HC2
            have hg1 : g < wr.heap.size := (World.ownsRow.lt HS.out g rfl).2
            go_wp2_with fail
            obtain ⟨w6, rfl⟩ : ∃ w6 : World, w6 = wr := ⟨_, rfl⟩
            go_loopw [3, 4] (fun lv left wr => ∃ (ls : List Pay) (m f : Nat), m ≤ f ∧ m ≤ t ∧ left = .int .i64 (m : Int) ∧ PaySl wr w.heap.size lv ls ∧ Hid (m &&& gSet xs = m) ∧ Hid (sumL (gSub xs m) = 0) ∧ Hid (settleBestL xs = ls ++ groupGo xs f m) ∧ Hid (ls.length + (gSub xs m).length ≤ 7) ∧ IntSl wr w.heap.size (.slice (some ⟨g, 0, none⟩) k cap) (cleanTo xs k) ∧ Below w.heap.size w wr) (fun _ left _ => (intOf left).toNat)
            case atStart => exact ⟨[], t, t, Nat.le_refl _, Nat.le_refl _, rfl, HP.out, hide (by rw [HG.out]; exact within_self t), HS0, HR, hide (by have := HL7.out; simp; omega), HS.out, hbw0⟩
            case round =>
              clear HS HP hbw0 HS0 HR HL7 hg1
              obtain ⟨ls, m, f, hmf, hmi, rfl, hP, HW, H0, HB, HL, hS, hb⟩ := hrel
              have hsz := hb.size
              by_cases hm : m = 0
              · subst hm
                have H3 : Hid (settleBestL xs = ls) := hide (by rw [HB.out, groupGo_zero, List.append_nil])
                go_wp2_with fail
                refine bodyPost_ret (results_tmp rfl _ _ _) rfl ⟨_, rfl, by rw [H3.out]; exact hP, hb⟩
              · obtain ⟨f', rfl⟩ : ∃ f', f = f' + 1 := ⟨f - 1, by omega⟩
                have hmb : (0 : Int) < (m : Int) := by omega
                have hgs := gStep_of HI.out HW.out H0.out (by omega)
                have HB2 : Hid (settleBestL xs = (ls ++ settleFastL (gPart xs (gFirst xs m))) ++ groupGo xs f' (m - gFirst xs m)) := hide (by rw [HB.out, groupGo, if_neg hm, List.append_assoc])
                have hHL := HL.out
                have HV : Hid (∀ p, p ≤ m → p &&& m = p → (cleanTo xs k)[p]? = some (gV xs p)) := hide (fun p h1 h2 => by rw [cleanTo_at (by omega), cleanAt_open HI.out (within_trans h2 HW.out)])
                have HRR : Hid (∀ p, p ≤ m → -1 ≤ gV xs p ∧ gV xs p ≤ 7) := hide (fun p hp => gV_7 h7 (HLT.out p (by omega)))
                have hfg := fun v W h => l5First_any v (some ⟨g, 0, none⟩) cap (cleanTo xs k) xs m W h (by omega) (by omega) (by rw [cleanTo_len]; omega) (by rw [cleanTo_len]; omega) HV HRR
                rw [cleanTo_len] at hfg
                have HFG := hide hfg
                obtain ⟨p, hp⟩ : ∃ p, gFirst xs m = p := ⟨_, rfl⟩
                rw [hp] at hgs HB2
                have HP := hide hp
                obtain ⟨g1, g2, g3, g4, g5, g6, g7, g8, g9, g10⟩ := hgs
                have HW2 := hide g8
                have H02 := hide g7
                have HPL := hide (gPart_len xs p)
                have HG9 := hide g9
                have HG10 : Hid (ls.length + (settleFastL (gPart xs p)).length + (gSub xs (m - p)).length ≤ 7) := hide (by omega)
                clear hm hfg hp g2 g5 g6 g7 g8 g9 g10 hHL
                go_wp2_with fail
                refine (HFG.out _ _ hS.ints).mono ?_
                rintro e w3 ⟨rfl, hB3⟩
                rw [HP.out]
                have hb3 := next hb hB3
                have HP3 := hide (PaySl.below hP hB3)
                have HS3 := hide (IntSl.below hS hB3)
                have hsz3 := hb3.size
                have hmk := HMK.out
                have HQ0 := hide (HZ0.out w3)
                have HB30 : Hid (Below w3.heap.size w3 (w3.alloc (.cells (madeCells #[.int .i64 0] xs.length) 3))) := hide (by go_grown)
                clear hP hS hB3
                go_wp2_with fail
                clear hmk
                go_loopw [13] (fun i wr => ∃ (j : Nat), j ≤ xs.length ∧ i = .int .i64 j ∧ IntSl wr w3.heap.size (.slice (some ⟨w3.heap.size, 0, none⟩) xs.length xs.length) (partTo xs p j) ∧ w3.heap.size < wr.heap.size ∧ Below w3.heap.size w3 wr) (fun i _ => xs.length - (intOf i).toNat)
                case atStart => exact ⟨0, Nat.zero_le _, rfl, by rw [partTo_zero]; exact HQ0.out, by simp, HB30.out⟩
                case round =>
                  clear HQ0 HB30
                  obtain ⟨j, hj, rfl, hQ, hlt0, hbo⟩ := hrel
                  have hszo := hbo.size
                  have hbw0 : Below w.heap.size w wr := next hb3 hbo
                  by_cases hlj : j < xs.length
                  · obtain ⟨b, off, rfl, hbl, hc1⟩ := (hA.below hbw0) j xs[j] (List.getElem?_eq_getElem hlj)
                    have HX : Hid (xs.getD j 0 = xs[j]) := hide (by simp [hlj])
                    generalize xs[j] = x at *
                    have hz : (0 : Int) ≤ j := by omega
                    have hz2 : (j : Int) < xs.length := by omega
                    have hk64 : j < 64 := by omega
                    have hsl := shift_low p j
                    have hso := shift_odd (s := p) (k := j)
                    by_cases hh : p / 2 ^ j % 2 = 1
                    · rw [decide_eq_true hh] at hso
                      have hfz := hQ.frozenAt j
                      obtain ⟨v0, hck⟩ : ∃ v, wr.cell? ⟨w3.heap.size, j, none⟩ = some v := ⟨_, hQ.cellAt (List.getElem?_eq_getElem (by rw [partTo_len]; exact hlj))⟩
                      have HN1 : Hid (IntSl (wr.setCell ⟨w3.heap.size, j, none⟩ (.int .i64 x)) w3.heap.size (.slice (some ⟨w3.heap.size, 0, none⟩) xs.length xs.length) (partTo xs p (j + 1))) := hide (by
                        have := IntSl.store hQ j x
                        rw [← HX.out, partTo_set hh] at this
                        rw [← HX.out]
                        exact this)
                      have HB1 := hide (hbo.grown (IntSl.grownSet hQ j x) hszo (fun k hk => by injection hk with hk; omega))
                      clear hQ hh
                      go_wp2_with fail
                      go_roundw
                      case rel => exact ⟨j + 1, hlj, by go_num, HN1.out, by simp; exact hlt0, HB1.out⟩
                      case measure => simp [intOf]; omega
                    · rw [decide_eq_false hh] at hso
                      rw [partTo_skip hh] at hQ
                      have HQ := hide hQ
                      clear hQ hh
                      go_wp2_with fail
                      go_roundw
                      case rel => exact ⟨j + 1, hlj, by go_num, HQ.out, hlt0, hbo⟩
                      case measure => simp [intOf]; omega
                  · obtain rfl : j = xs.length := by omega
                    rw [partTo_all] at hQ
                    have hI4 := hQ.ints
                    have hP4 := PaySl.below HP3.out hbo
                    have hS4 := IntSl.below HS3.out hbo
                    have hsf := specSettleFast_any ⟨w3.heap.size, 0, none⟩ xs.length (gPart xs p) wr hI4 (by rw [HPL.out]; omega)
                    rw [HPL.out] at hsf
                    have HSF := hide hsf
                    have HP4 := hide hP4
                    have HS4 := hide hS4
                    clear hsf hQ hP4 hS4 hI4
                    go_wp2_with fail
                    refine HSF.out.mono ?_
                    rintro e w5 ⟨fv, rfl, hF5, hB5⟩
                    have hb5 := next hbw0 hB5
                    have hP5 := PaySl.below HP4.out hB5
                    have hS5 := IntSl.below HS4.out hB5
                    obtain ⟨A5, c5, hv5, hF5a, -⟩ := hF5.form
                    obtain ⟨n5, hn5⟩ : ∃ n5, (settleFastL (gPart xs p)).length = n5 := ⟨_, rfl⟩
                    have hlen5 := HG10.out
                    have hpos5 := HG9.out
                    rw [hn5] at hv5 hlen5 hpos5
                    subst hv5
                    obtain ⟨a5, rfl⟩ : ∃ a5, A5 = some a5 := by
                      obtain ⟨b, off, e, -⟩ := hF5a 0 _ (List.getElem?_eq_getElem (show 0 < (settleFastL (gPart xs p)).length by omega))
                      exact ⟨_, e⟩
                    have HN5 := hide hn5
                    have HP5 := hide hP5
                    have HS5 := hide hS5
                    have HF5 := hide hF5a
                    have HAP := hide (rows_apart hS5 hP5 (by decide))
                    have HLT5 := hide (World.ownsRow.lt hP5)
                    have hsz5 := hb5.size
                    clear hP5 hS5 hF5 hF5a hB5 hn5
                    go_wp2_with (at_builtin; refine wpList_spreadN_pay rfl _ _ rfl w.heap.size u3 ls rfl HP5.out a5 n5 c5 (by omega) (settleFastL (gPart xs p)) HN5.out rfl HF5.out (by omega) (by omega) ?_; intro gg cap6 w6 hown hgrow)
                    have hb6 : Below w.heap.size w w6 := hb5.grown hgrow (by omega) (fun k hk => (HLT5.out k hk).1)
                    have hS6 : IntSl w6 w.heap.size (.slice (some ⟨g, 0, none⟩) k cap) (cleanTo xs k) := HS5.out.row hgrow HAP.out
                    have HLS : Hid ((ls ++ settleFastL (gPart xs p)).length = ls.length + n5) := hide (by rw [List.length_append, HN5.out])
                    have hsub : (m : Int) - (p : Int) = ((m - p : Nat) : Int) := by omega
                    clear hgrow
                    go_wp2_with fail
                    go_roundw
                    case rel => exact ⟨ls ++ settleFastL (gPart xs p), m - p, f', by omega, by omega, by rw [hsub], hown, HW2, H02, HB2, hide (by rw [HLS.out]; omega), hS6, hb6⟩
                    case measure => simp [intOf]; omega
end Go.Proofs.YtgagfaajilbmmaaDoor
