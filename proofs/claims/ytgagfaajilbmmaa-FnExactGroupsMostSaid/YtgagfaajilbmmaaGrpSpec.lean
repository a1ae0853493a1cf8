/- GrpSpec: contracts of l5Sum, l5Groups, GroupsMost, SettleLeast and l5First of the reference model.
   Conditions: lists have at most 1048576 elements. -/
import Derived.Test.YtgagfaajilbmmaaGrpTable
import Derived.Test.YtgagfaajilbmmaaPush
namespace Go.Proofs.Ytgagfaajilbmmaa
open Go.RowKit Go.ChangeShapes Go.WideShapes Go.ChangeAt Go.Deep

theorem gSub_step (xs : List Int) (s k : Nat) {x : Int} (h : xs.drop k = x :: xs.drop (k + 1)) : gSub (xs.drop k) (s / 2 ^ k) = if s / 2 ^ k % 2 = 1 then x :: gSub (xs.drop (k + 1)) (s / 2 ^ (k + 1)) else gSub (xs.drop (k + 1)) (s / 2 ^ (k + 1)) := by
  rw [h, gSub, Nat.div_div_eq_div_mul, Nat.pow_succ]
theorem shift_n (s k : Nat) : ((s : Int) / 2 ^ k) = ((s / 2 ^ k : Nat) : Int) := by simp
theorem shift_odd {s k : Nat} : ((s : Int) / 2 ^ k % 2 == 1) = decide (s / 2 ^ k % 2 = 1) := by
  rw [shift_n, Bool.eq_iff_iff, beq_iff_eq, decide_eq_true_iff]
  omega
theorem shift_low (s k : Nat) : (0 : Int) ≤ (s : Int) / 2 ^ k := Int.ediv_nonneg (by omega) (Int.pow_nonneg (by omega))

set_option maxRecDepth 100000 in
set_option maxHeartbeats 1000000 in
theorem l5Sum_any (A : Option Addr) (c : Nat) (xs : List Int) (s : Nat) (w : World) (hA : IntsAt w A xs) (hl : xs.length ≤ 7) (HR : Hid (∀ y ∈ xs, -9999 ≤ y ∧ y ≤ 9999)) :
    Calls Try.prog 69 #[.slice A xs.length c, .int .i64 s] w fun e w' => e = .returned (.int .i64 (sumL (gSub xs s))) ∧ Below w.heap.size w w' := by
  go_enter Try.func69, Try.ntmps69
  go_wp2_with fail
  go_loopw [5, 6] (fun sv i wr => ∃ (k : Nat) (t : Int), k ≤ xs.length ∧ i = .int .i64 k ∧ sv = .int .i64 t ∧ -9999 * (k : Int) ≤ t ∧ t ≤ 9999 * (k : Int) ∧ Hid (sumL (gSub xs s) = t + sumL (gSub (xs.drop k) (s / 2 ^ k))) ∧ Below w.heap.size w wr) (fun _ i _ => xs.length - (intOf i).toNat)
  case atStart => exact ⟨0, 0, Nat.zero_le _, rfl, rfl, by omega, by omega, hide (by simp), Below.refl _ _⟩
  case round =>
    obtain ⟨k, t, hk, rfl, rfl, ht0, ht1, HG, hb⟩ := hrel
    have hsz := hb.size
    by_cases hlt : k < xs.length
    · obtain ⟨b, off, rfl, hbl, hc1⟩ := (hA.below hb) k xs[k] (List.getElem?_eq_getElem hlt)
      have HD := hide (gSub_step xs s k (List.drop_eq_getElem_cons hlt))
      have hxr := HR.out xs[k] (List.getElem_mem hlt)
      generalize xs[k] = x at *
      have hz : (0 : Int) ≤ k := by omega
      have hz2 : (k : Int) < xs.length := by omega
      have hk64 : k < 64 := by omega
      have hsl := shift_low s k
      have hso := shift_odd (s := s) (k := k)
      by_cases hh : s / 2 ^ k % 2 = 1
      · rw [decide_eq_true hh] at hso
        have H3 : Hid (sumL (gSub xs s) = (t + x) + sumL (gSub (xs.drop (k + 1)) (s / 2 ^ (k + 1)))) := hide (by rw [HG.out, HD.out, if_pos hh, sumL]; omega)
        clear hh
        go_wp2_with fail
        go_roundw
        case rel => exact ⟨k + 1, t + x, hlt, by go_num, rfl, by omega, by omega, H3, hb⟩
        case measure => simp [intOf]; omega
      · rw [decide_eq_false hh] at hso
        have H3 : Hid (sumL (gSub xs s) = t + sumL (gSub (xs.drop (k + 1)) (s / 2 ^ (k + 1)))) := hide (by rw [HG.out, HD.out, if_neg hh])
        clear hh
        go_wp2_with fail
        go_roundw
        case rel => exact ⟨k + 1, t, hlt, by go_num, rfl, by omega, by omega, H3, hb⟩
        case measure => simp [intOf]; omega
    · have H3 : Hid (sumL (gSub xs s) = t) := hide (by rw [HG.out, List.drop_of_length_le (by omega), gSub, sumL]; omega)
      go_wp2_with fail
      go_ret
      exact ⟨by rw [H3.out]; rfl, hb⟩

/-- The table of all sets up to one. -/
def grpAll (xs : List Int) (k : Nat) : List Int := tab k (gV xs)
theorem grpAll_len (xs : List Int) (k : Nat) : (grpAll xs k).length = k := tab_len _ _
theorem grpAll_at {xs : List Int} {k j : Nat} (h : j < k) : (grpAll xs k)[j]? = some (gV xs j) := by unfold grpAll; rw [tab_at h]
theorem grpAll_snoc (xs : List Int) (k : Nat) : grpAll xs k ++ [gV xs k] = grpAll xs (k + 1) := tab_snoc _ _

set_option maxRecDepth 100000 in
set_option maxHeartbeats 4000000 in
theorem l5Groups_any (A : Option Addr) (c : Nat) (xs : List Int) (N : Nat) (w : World) (hA : IntsAt w A xs) (hl : xs.length ≤ 7) (HR : Hid (∀ y ∈ xs, -9999 ≤ y ∧ y ≤ 9999)) (HN : Hid (N = 2 ^ xs.length)) :
    Calls Try.prog 51 #[.slice A xs.length c] w fun e w' => ∃ g cap, e = .returned (.slice (some ⟨g, 0, none⟩) N cap) ∧ IntSl w' w.heap.size (.slice (some ⟨g, 0, none⟩) N cap) (grpAll xs N) ∧ Below w.heap.size w w' := by
  have hp := pow7 hl
  have hNp : (2 : Int) ^ xs.length = (N : Int) := by rw [HN.out]; simp
  rw [hNp] at hp
  have hN1 : 1 ≤ N := by omega
  have hN2 : N ≤ 128 := by omega
  have HLT : Hid (∀ s, s < N → s < 2 ^ xs.length) := hide (fun s hs => by rw [HN.out] at hs; exact hs)
  have HRR : Hid (∀ s, s < N → -1 ≤ gV xs s ∧ gV xs s ≤ 7) := hide (fun s hs => gV_7 hl (HLT.out s hs))
  have HSUM := hide (fun W s h => l5Sum_any A c xs s W h hl HR)
  obtain ⟨n, hn⟩ : ∃ n : Nat, xs.length = n := ⟨_, rfl⟩
  rw [hn] at hNp HSUM ⊢
  have hn7 : n ≤ 7 := by omega
  clear hl hn hp
  have HO0 : Hid (IntSl (w.alloc (.cells #[.int .i64 0] 3)) w.heap.size (.slice (some ⟨w.heap.size, 0, none⟩) 1 1) (grpAll xs 1)) := hide (World.ownsRow_lit w #[.int .i64 0] 1 (Nat.le_refl _) (by unfold maxLen; omega) rfl)
  have HBA0 : Hid (Below w.heap.size w (w.alloc (.cells #[.int .i64 0] 3))) := hide (by go_grown)
  go_enter Try.func51, Try.ntmps51
  go_wp2_with fail
  go_loopw [3, 4] (fun ov iv wr => ∃ (k g cap : Nat), 1 ≤ k ∧ k ≤ N ∧ iv = .int .i64 k ∧ ov = .slice (some ⟨g, 0, none⟩) k cap ∧ IntSl wr w.heap.size (.slice (some ⟨g, 0, none⟩) k cap) (grpAll xs k) ∧ Below w.heap.size w wr) (fun _ iv _ => (N - (intOf iv).toNat))
  case atStart => exact ⟨1, w.heap.size, 1, by omega, hN1, rfl, rfl, HO0.out, HBA0.out⟩
  case round =>
    clear HO0 HBA0
    obtain ⟨k, g, cap, hk1, hk2, rfl, rfl, hS, hb⟩ := hrel
    have hsz := hb.size
    by_cases hlt : k < N
    · have hk0 : (0 : Int) ≤ k := by omega
      have hkN : (k : Int) < N := by omega
      have hk3 : (k : Int) < 2 ^ n := by omega
      have HSM := hide (fun W h => HSUM.out W k h)
      by_cases hz : sumL (gSub xs k) = 0
      · have HZ := hide hz
        have HVK : Hid (gV xs k = gBest (gV xs) k (k - 1)) := hide (by rw [gV_eq xs (by omega), if_pos hz])
        have HPOS : Hid (∀ p, 1 ≤ p → sumL (gSub xs p) = 0 → 1 ≤ gV xs p) := hide (fun p h1 h2 => gV_pos (by omega) h2)
        clear hz
        go_wp2_with fail
        refine (HSM.out _ (hA.below hb)).mono ?_
        rintro e w3 ⟨rfl, hB3⟩
        rw [HZ.out]
        have HS3 := hide (IntSl.below hS hB3)
        have hb3 := next hb hB3
        clear hS hB3 hb hsz
        go_wp2_with fail
        go_loopw [5, 6] (fun bv pv wr => ∃ (p : Nat) (v : Int), p < k ∧ pv = .int .i64 ((p : Int) + 1) ∧ bv = .int .i64 v ∧ 1 ≤ v ∧ v ≤ 14 ∧ Hid (gBest (gV xs) k p = v) ∧ IntSl wr w.heap.size (.slice (some ⟨g, 0, none⟩) k cap) (grpAll xs k) ∧ Below w.heap.size w wr) (fun _ pv _ => (k + 1 - (intOf pv).toNat))
        case atStart => exact ⟨0, 1, by omega, by simp, rfl, by omega, by omega, hide rfl, HS3.out, hb3⟩
        case round =>
          clear HS3 hb3
          obtain ⟨p, v, hpk, rfl, rfl, hv0, hv1, HB, hS, hb⟩ := hrel
          have hsz := hb.size
          by_cases hpl : (p : Int) + 1 < k
          · have hpc : ((p + 1 : Nat) : Int) = (p : Int) + 1 := by omega
            have hp0 : (0 : Int) ≤ (p : Int) + 1 := by omega
            by_cases hin : (p + 1) &&& k = p + 1
            · have HC : Hid (∀ W, Calls Try.prog 70 #[.int .i64 ((p : Int) + 1), .int .i64 (k : Int)] W fun e w' => e = .returned (.int .i64 ((p : Int) + 1)) ∧ W = w') := hide (fun W => by
                have := l1Meet_n (p + 1) k W (by omega) (by omega)
                rw [hin, hpc] at this
                exact this)
              obtain ⟨y, HY⟩ : ∃ y, Hid (gV xs (p + 1) = y) := ⟨_, hide rfl⟩
              have hyr := HRR.out (p + 1) (by omega)
              rw [HY.out] at hyr
              have hcy := hS.cellAt (grpAll_at (xs := xs) (k := k) (j := p + 1) (by omega))
              rw [HY.out] at hcy
              by_cases hm : y = -1
              · subst hm
                have H3 := hide (gBest_not HB.out (.inr HY.out))
                have HS := hide hS
                have hwr : IntKind.i64.wrap ((k : Int) - ((p : Int) + 1)) = (k : Int) - ((p : Int) + 1) := IntWalk.i64_in _ (by omega)
                clear hpc hin hS
                go_wp2_with fail
                refine (HC.out _).mono ?_
                rintro e w4 ⟨rfl, rfl⟩
                go_wp2_with fail
                refine (HC.out _).mono ?_
                rintro e w4 ⟨rfl, rfl⟩
                go_wp2_with fail
                go_roundw
                case rel => exact ⟨p + 1, v, by omega, by go_num, rfl, hv0, hv1, H3, HS.out, hb⟩
                case measure => simp [intOf]; omega
              · have hrin := rest_within k (Nat.le_refl _) hin
                have hy0 : sumL (gSub xs (p + 1)) = 0 := (gV_not (by omega)).1 (by rw [HY.out]; exact hm)
                have hy1 : 1 ≤ y := by have := HPOS.out (p + 1) (by omega) hy0; rwa [HY.out] at this
                have hz0 : sumL (gSub xs (k - (p + 1))) = 0 := by
                  have := (gSub_shuf xs hin).sum
                  have := HZ.out
                  omega
                obtain ⟨z, HZV⟩ : ∃ z, Hid (gV xs (k - (p + 1)) = z) := ⟨_, hide rfl⟩
                have hz1 : 1 ≤ z := by have := HPOS.out (k - (p + 1)) (by omega) hz0; rwa [HZV.out] at this
                have hzr := HRR.out (k - (p + 1)) (by omega)
                rw [HZV.out] at hzr
                have hcz := hS.cellAt (grpAll_at (xs := xs) (k := k) (j := k - (p + 1)) (by omega))
                rw [HZV.out] at hcz
                obtain ⟨r, hr⟩ : ∃ r : Nat, r = k - (p + 1) := ⟨_, rfl⟩
                rw [← hr] at hcz
                have hr2 : (k : Int) - ((p : Int) + 1) = r := by omega
                have hr0 : (0 : Int) ≤ r := by omega
                have hr1 : (r : Int) < k := by omega
                have HST := hide (gBest_yes HB.out hin HY.out HZV.out hm)
                have hw5 : IntKind.i64.wrap (y + z) = y + z := IntWalk.i64_in _ (by omega)
                have HS := hide hS
                clear hpc hin hm hrin hr hS hy0 hz0
                have H3 : Hid (gBest (gV xs) k (p + 1) = if v < y + z then y + z else v) := hide (by rw [HST.out]; split <;> split <;> omega)
                go_wp2_with fail
                refine (HC.out _).mono ?_
                rintro e w4 ⟨rfl, rfl⟩
                go_wp2_with fail
                refine (HC.out _).mono ?_
                rintro e w4 ⟨rfl, rfl⟩
                go_wp2_with fail
                go_quiet (fail)
                go_wp2_with fail
                go_roundw
                case rel => exact ⟨p + 1, if v < y + z then y + z else v, by omega, by go_num, rfl, by split <;> omega, by split <;> omega, H3, HS.out, below_drewN hb _⟩
                case measure => simp [intOf]; omega
            · have hle : (p + 1) &&& k ≤ p + 1 := Nat.and_le_left
              obtain ⟨q, hq⟩ : ∃ q : Nat, (p + 1) &&& k = q := ⟨_, rfl⟩
              have HC : Hid (∀ W, Calls Try.prog 70 #[.int .i64 ((p : Int) + 1), .int .i64 (k : Int)] W fun e w' => e = .returned (.int .i64 (q : Int)) ∧ W = w') := hide (fun W => by
                have := l1Meet_n (p + 1) k W (by omega) (by omega)
                rw [hq, hpc] at this
                exact this)
              have H3 := hide (gBest_not HB.out (.inl hin))
              rw [hq] at hle hin
              have hqb : ((q : Int) == (p : Int) + 1) = false := by simp; omega
              have hq0 : (0 : Int) ≤ q := by omega
              have hwr : IntKind.i64.wrap ((k : Int) - (q : Int)) = (k : Int) - (q : Int) := IntWalk.i64_in _ (by omega)
              have HS := hide hS
              clear hpc hin hq hS
              go_wp2_with fail
              refine (HC.out _).mono ?_
              rintro e w4 ⟨rfl, rfl⟩
              go_wp2_with fail
              refine (HC.out _).mono ?_
              rintro e w4 ⟨rfl, rfl⟩
              go_wp2_with fail
              go_roundw
              case rel => exact ⟨p + 1, v, by omega, by go_num, rfl, hv0, hv1, H3, HS.out, hb⟩
              case measure => simp [intOf]; omega
          · obtain rfl : k = p + 1 := by omega
            have HE : Hid (grpAll xs (p + 1) ++ [v] = grpAll xs (p + 1 + 1)) := hide (by rw [← grpAll_snoc xs (p + 1), HVK.out, show p + 1 - 1 = p from rfl, HB.out])
            have hlen : (grpAll xs (p + 1)).length ≤ 128 := by rw [grpAll_len]; omega
            have HSA := hide (World.ownsRow.alloc hS (.cells #[.int .i64 v] 3))
            have HBA := hide (hb.alloc hsz (.cells #[.int .i64 v] 3))
            have HLTS := hide (World.ownsRow.lt hS)
            have HL := hide (grpAll_len xs (p + 1))
            clear hS
            go_wp2_with (at_builtin; refine wpList_push_int rfl _ _ rfl w.heap.size (.slice (some ⟨g, 0, none⟩) (p + 1) cap) (grpAll xs (p + 1)) rfl HSA.out wr.heap.size v rfl (heap_alloc_new wr _) (by omega) (by simp; omega) ?_; intro g5 cap5 w5 hown hgrow hnew)
            have hb5 : Below w.heap.size w w5 := HBA.out.grown hgrow (by simp; omega) (fun k hk => (HLTS.out k hk).1)
            rw [HE.out, HL.out] at hown
            rw [HL.out]
            clear hgrow hnew
            go_wp2_with fail
            go_roundw
            case rel => exact ⟨p + 1 + 1, g5, cap5, by omega, by omega, by go_num, rfl, hown, hb5⟩
            case measure => simp [intOf]; omega
      · obtain ⟨sm, hsm⟩ : ∃ sm, sumL (gSub xs k) = sm := ⟨_, rfl⟩
        have HSMV := hide hsm
        have HE : Hid (grpAll xs k ++ [-1] = grpAll xs (k + 1)) := hide (by rw [← grpAll_snoc, gV_none hz])
        have hlen : (grpAll xs k).length ≤ 128 := by rw [grpAll_len]; omega
        rw [hsm] at hz
        have hzb : (sm == 0) = false := by simpa using hz
        have HL := hide (grpAll_len xs k)
        clear hz hsm
        go_wp2_with fail
        refine (HSM.out _ (hA.below hb)).mono ?_
        rintro e w3 ⟨rfl, hB3⟩
        rw [HSMV.out]
        have hS3 := IntSl.below hS hB3
        have hb3 := next hb hB3
        have hsz3 := hb3.size
        have HSA := hide (World.ownsRow.alloc hS3 (.cells #[.int .i64 (-1)] 3))
        have HBA := hide (hb3.alloc hsz3 (.cells #[.int .i64 (-1)] 3))
        have HLTS := hide (World.ownsRow.lt hS3)
        clear hS hS3 hB3 hb hsz
        go_wp2_with (at_builtin; refine wpList_push_int rfl _ _ rfl w.heap.size (.slice (some ⟨g, 0, none⟩) k cap) (grpAll xs k) rfl HSA.out w3.heap.size (-1) rfl (heap_alloc_new w3 _) (by omega) (by simp; omega) ?_; intro g5 cap5 w5 hown hgrow hnew)
        have hb5 : Below w.heap.size w w5 := HBA.out.grown hgrow (by simp; omega) (fun k hk => (HLTS.out k hk).1)
        rw [HE.out, HL.out] at hown
        rw [HL.out]
        clear hgrow hnew
        go_wp2_with fail
        go_roundw
        case rel => exact ⟨k + 1, g5, cap5, by omega, by omega, by go_num, rfl, hown, hb5⟩
        case measure => simp [intOf]; omega
    · obtain rfl : k = N := by omega
      have HS := hide hS
      clear hS
      go_wp2_with fail
      exact bodyPost_ret (results_tmp rfl _ _ _) rfl ⟨_, _, rfl, HS.out, hb⟩

theorem groups_open {xs : List Int} (h : owedOk xs = true) : groupsMostL xs = gV (gOpen xs) (2 ^ (gOpen xs).length - 1) := by
  unfold groupsMostL gMost
  rw [if_pos h]
  have hp := Nat.one_le_two_pow (n := (gOpen xs).length)
  exact gV_same (gSet_lt xs) (by omega) (by rw [gSub_set, gSub_full])
theorem gOpen_step {xs : List Int} {k : Nat} {x : Int} (h : xs.drop k = x :: xs.drop (k + 1)) : gOpen (xs.drop k) = if (x != 0) = true then x :: gOpen (xs.drop (k + 1)) else gOpen (xs.drop (k + 1)) := by
  rw [h]
  unfold gOpen
  rw [List.filter_cons]
theorem gOpen_rng {xs : List Int} (h : ∀ y ∈ xs, -9999 ≤ y ∧ y ≤ 9999) : ∀ y ∈ gOpen xs, -9999 ≤ y ∧ y ≤ 9999 := fun y hy => h y (List.mem_filter.1 hy).1

set_option maxRecDepth 100000 in
set_option maxHeartbeats 2000000 in
theorem specGroupsMost_any (A : Option Addr) (c : Nat) (xs : List Int) (w : World) (hA : IntsAt w A xs) (hl : xs.length ≤ 1048576) :
    Calls Try.prog 25 #[.slice A xs.length c] w fun e w' => e = .returned (.int .i64 (groupsMostL xs)) ∧ Below w.heap.size w w' := by
  cases hI : owedOk xs with
  | false =>
    have HI := hide hI
    have HR : Hid (groupsMostL xs = -1) := hide (by unfold groupsMostL; rw [hI]; rfl)
    clear hI
    go_enter Try.func25, Try.ntmps25
    go_wp2_with fail
    refine (specOwedValid_any _ _ _ _ hA hl).mono ?_
    rintro e w1 ⟨rfl, hB1⟩
    rw [HI.out]
    go_wp2_with fail
    go_ret
    exact ⟨by rw [HR.out]; rfl, hB1⟩
  | true =>
    have HI := hide hI
    have h7 := owedOk_len hI
    have HGO := hide (groups_open hI)
    have HRNG : Hid (∀ y ∈ gOpen xs, -9999 ≤ y ∧ y ≤ 9999) := hide (gOpen_rng (FInv.start hI).rng)
    clear hI
    go_enter Try.func25, Try.ntmps25
    go_wp2_with fail
    refine (specOwedValid_any _ _ _ _ hA hl).mono ?_
    rintro e w1 ⟨rfl, hB1⟩
    rw [HI.out]
    have hsz1 := hB1.size
    have HO : Hid (IntSl (w1.alloc (.cells #[] 3)) w.heap.size (.slice (some ⟨w1.heap.size, 0, none⟩) 0 0) []) := hide (World.ownsRow_lit w1 #[] 0 hsz1 (by unfold maxLen; omega) rfl)
    have HB0 : Hid (Below w.heap.size w (w1.alloc (.cells #[] 3))) := hide (hB1.alloc hsz1 _)
    go_wp2_with fail
    go_loopw [3, 4] (fun v i wr => ∃ (k : Nat) (ys : List Int), k ≤ xs.length ∧ ys.length ≤ k ∧ i = .int .i64 k ∧ IntSl wr w.heap.size v ys ∧ Hid (gOpen xs = ys ++ gOpen (xs.drop k)) ∧ Below w.heap.size w wr) (fun _ i _ => xs.length - (intOf i).toNat)
    case atStart => exact ⟨0, [], by omega, by simp, rfl, HO.out, hide rfl, HB0.out⟩
    case round =>
      clear HO HB0 hB1 hsz1
      obtain ⟨k, ys, hk, hyk, rfl, hS, HG, hb⟩ := hrel
      have hsz := hb.size
      by_cases hlt : k < xs.length
      · obtain ⟨b, off, rfl, hbl, hc1⟩ := (hA.below hb) k xs[k] (List.getElem?_eq_getElem hlt)
        have HST := hide (gOpen_step (List.drop_eq_getElem_cons hlt))
        generalize xs[k] = x at *
        have hz : (0 : Int) ≤ k := by omega
        have hz2 : (k : Int) < xs.length := by omega
        cases hx : (x != 0) with
        | false =>
          have H3 : Hid (gOpen xs = ys ++ gOpen (xs.drop (k + 1))) := hide (by rw [HG.out, HST.out, hx]; rfl)
          have HS := hide hS
          clear hS
          go_wp2_with fail
          go_roundw
          case rel => exact ⟨k + 1, ys, hlt, by omega, by go_num, HS.out, H3, hb⟩
          case measure => simp [intOf]; omega
        | true =>
          have H3 : Hid (gOpen xs = (ys ++ [x]) ++ gOpen (xs.drop (k + 1))) := hide (by rw [HG.out, HST.out, hx, List.append_assoc]; rfl)
          have HSA := hide (World.ownsRow.alloc hS (.cells #[.int .i64 x] 3))
          have HBA := hide (hb.alloc hsz (.cells #[.int .i64 x] 3))
          have HLTS := hide (World.ownsRow.lt hS)
          clear hS
          go_wp2_with (at_builtin; refine wpList_push_int rfl _ _ rfl w.heap.size u3 ys rfl HSA.out wr.heap.size x rfl (heap_alloc_new wr _) (by omega) (by simp; omega) ?_; intro g5 cap5 w5 hown hgrow hnew)
          have hb5 : Below w.heap.size w w5 := HBA.out.grown hgrow (by simp; omega) (fun k hk => (HLTS.out k hk).1)
          clear hgrow hnew
          go_wp2_with fail
          go_roundw
          case rel => exact ⟨k + 1, ys ++ [x], hlt, by simp; omega, by go_num, by simpa using hown, H3, hb5⟩
          case measure => simp [intOf]; omega
      · have H3 : Hid (gOpen xs = ys) := hide (by rw [HG.out, List.drop_of_length_le (by omega)]; simp [gOpen])
        have hy7 : ys.length ≤ 7 := by omega
        obtain ⟨i, hi⟩ : ∃ i : Nat, 2 ^ ys.length = i + 1 := ⟨2 ^ ys.length - 1, by have := Nat.one_le_two_pow (n := ys.length); omega⟩
        have HN : Hid (i + 1 = 2 ^ ys.length) := hide hi.symm
        have hi128 : i < 128 := by
          have a : (2 : Nat) ^ ys.length ≤ 2 ^ 7 := Nat.pow_le_pow_right (by omega) hy7
          have b : (2 : Nat) ^ 7 = 128 := rfl
          omega
        obtain ⟨y, HY⟩ : ∃ y, Hid (gV ys i = y) := ⟨_, hide rfl⟩
        have HR : Hid (groupsMostL xs = y) := hide (by rw [HGO.out, H3.out, hi, show i + 1 - 1 = i from rfl, HY.out])
        obtain ⟨Ao, co, hv, hI4, -⟩ := hS.form
        subst hv
        have hi0 : (0 : Int) ≤ i := by omega
        clear hS hi
        go_wp2_with fail
        refine (l5Groups_any Ao co ys (i + 1) _ hI4 hy7 (hide (by rw [← H3.out]; exact HRNG.out)) HN).mono ?_
        rintro e w4 ⟨g4, c4, rfl, hS4, hB4⟩
        have hb4 := next hb hB4
        have hcell := hS4.cellAt (grpAll_at (xs := ys) (k := i + 1) (j := i) (by omega))
        rw [HY.out] at hcell
        clear hS4 hI4
        go_wp2_with fail
        go_ret
        exact ⟨by rw [HR.out]; rfl, hb4⟩

theorem nz_step {xs : List Int} {k : Nat} {x : Int} (h : xs.drop k = x :: xs.drop (k + 1)) : nz (xs.drop k) = nz (xs.drop (k + 1)) + (if (x != 0) = true then 1 else 0) := by
  rw [h]
  unfold nz
  rw [List.countP_cons]

end Go.Proofs.Ytgagfaajilbmmaa
