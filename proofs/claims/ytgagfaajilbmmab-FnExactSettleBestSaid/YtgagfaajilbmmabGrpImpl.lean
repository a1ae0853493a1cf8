/- GrpImpl: contracts of GroupsMost, SettleLeast, firstGroup and SettleBest of the program.
   Conditions: lists have at most 1048576 elements. -/
import Derived.Test.YtgagfaajilbmmabGrpTable
import Derived.Test.YtgagfaajilbmmabSpreadN
namespace Go.Proofs.Ytgagfaajilbmmab
open Go.RowKit Go.ChangeShapes Go.WideShapes Go.ChangeAt Go.Deep

theorem gV_set {xs : List Int} (h : owedOk xs = true) : groupsMostL xs = gV xs (gSet xs) := by unfold groupsMostL gMost; rw [if_pos h]

set_option maxHeartbeats 1000000 in
theorem implGroupsMost_any (A : Option Addr) (c : Nat) (xs : List Int) (w : World) (hA : IntsAt w A xs) (hl : xs.length ≤ 1048576) :
    Calls Try.prog 20 #[.slice A xs.length c] w fun e w' => e = .returned (.int .i64 (groupsMostL xs)) ∧ Below w.heap.size w w' := by
  cases hI : owedOk xs with
  | false =>
    have HI := hide hI
    have HR : Hid (groupsMostL xs = -1) := hide (by unfold groupsMostL; rw [hI]; rfl)
    clear hI
    go_enter Try.func20, Try.ntmps20
    go_wp2_with fail
    refine (implOwedValid_any _ _ _ _ hA hl).mono ?_
    rintro e w1 ⟨rfl, hB1⟩
    rw [HI.out]
    go_wp2_with fail
    go_ret
    exact ⟨by rw [HR.out]; rfl, hB1⟩
  | true =>
    have HI := hide hI
    have h7 := owedOk_len hI
    obtain ⟨y, HY⟩ : ∃ y, Hid (groupsMostL xs = y) := ⟨_, hide rfl⟩
    have HV : Hid (gV xs (gSet xs) = y) := hide (by rw [← HY.out, gV_set hI])
    obtain ⟨i, hi⟩ : ∃ i : Nat, gSet xs = i := ⟨_, rfl⟩
    have HG := hide hi
    have hi128 : i < 128 := by rw [← hi]; exact gSet_128 h7
    have HO : Hid (∀ W, IntsAt W A xs → Calls Try.prog 19 #[.slice A xs.length c] W fun e w' => e = .returned (.int .i64 (i : Int)) ∧ W = w') := hide (fun W h => by
      rw [← hi, ← openS_set]
      exact openSet_any A c xs W h h7)
    clear hI hi
    go_enter Try.func20, Try.ntmps20
    go_wp2_with fail
    refine (implOwedValid_any _ _ _ _ hA hl).mono ?_
    rintro e w1 ⟨rfl, hB1⟩
    rw [HI.out]
    go_wp2_with fail
    refine (groupTable_any A c xs (i + 1) _ (hA.below hB1) HI (hide (by rw [HG.out]))).mono ?_
    rintro e w2 ⟨g, rfl, hS, hB2⟩
    have hb2 := next hB1 hB2
    have hcell := hS.cellAt (grpTo_all (xs := xs) (N := i + 1) (j := i) (by omega) (by rw [HG.out]; exact within_self i))
    rw [← HG.out, HV.out, HG.out] at hcell
    have hi0 : (0 : Int) ≤ i := by omega
    have hi1 : (i : Int) < ((i + 1 : Nat) : Int) := by omega
    clear hS hB2
    go_wp2_with fail
    refine (HO.out _ (hA.below hb2)).mono ?_
    rintro e w3 ⟨rfl, rfl⟩
    go_wp2_with fail
    go_ret
    exact ⟨by rw [HY.out]; rfl, hb2⟩

set_option maxHeartbeats 1000000 in
theorem implSettleLeast_any (A : Option Addr) (c : Nat) (xs : List Int) (w : World) (hA : IntsAt w A xs) (hl : xs.length ≤ 1048576) :
    Calls Try.prog 7 #[.slice A xs.length c] w fun e w' => e = .returned (.int .i64 (settleLeastL xs)) ∧ Below w.heap.size w w' := by
  cases hI : owedOk xs with
  | false =>
    have HI := hide hI
    have HR : Hid (settleLeastL xs = -1) := hide (by unfold settleLeastL; rw [hI]; rfl)
    clear hI
    go_enter Try.func7, Try.ntmps7
    go_wp2_with fail
    refine (implOwedValid_any _ _ _ _ hA hl).mono ?_
    rintro e w1 ⟨rfl, hB1⟩
    rw [HI.out]
    go_wp2_with fail
    go_ret
    exact ⟨by rw [HR.out]; rfl, hB1⟩
  | true =>
    have HI := hide hI
    have h7 := owedOk_len hI
    obtain ⟨i, hi⟩ : ∃ i : Nat, gSet xs = i := ⟨_, rfl⟩
    have hi128 : i < 128 := by rw [← hi]; exact gSet_128 h7
    have HO : Hid (∀ W, IntsAt W A xs → Calls Try.prog 19 #[.slice A xs.length c] W fun e w' => e = .returned (.int .i64 (i : Int)) ∧ W = w') := hide (fun W h => by
      rw [← hi, ← openS_set]
      exact openSet_any A c xs W h h7)
    obtain ⟨n, hn⟩ : ∃ n : Nat, nz xs = n := ⟨_, rfl⟩
    have hn7 : n ≤ 7 := by rw [← hn]; have := nz_len xs; omega
    have HC : Hid (∀ W, Calls Try.prog 18 #[.int .u64 (i : Int)] W fun e w' => e = .returned (.int .i64 (n : Int)) ∧ W = w') := hide (fun W => by
      rw [← hn, ← popN_set xs h7, hi]
      exact onesCount_any i W (by omega))
    have hw : IntKind.u64.wrap (i : Int) = i := wraps_u64 _ (by omega) (by omega)
    obtain ⟨y, hy⟩ : ∃ y : Int, groupsMostL xs = y := ⟨_, rfl⟩
    have HY := hide hy
    have hyr : -1 ≤ y ∧ y ≤ 7 := by
      rw [← hy, gV_set hI]
      exact gV_7 h7 (gSet_lt xs)
    have hy0 := hyr.1
    have hy1 := hyr.2
    have HR : Hid (settleLeastL xs = (n : Int) - y) := hide (by unfold settleLeastL; rw [if_pos hI, hn, ← hy]; unfold groupsMostL; rw [if_pos hI])
    clear hI hi hn hy hyr
    go_enter Try.func7, Try.ntmps7
    go_wp2_with fail
    refine (implOwedValid_any _ _ _ _ hA hl).mono ?_
    rintro e w1 ⟨rfl, hB1⟩
    rw [HI.out]
    go_wp2_with fail
    refine (HO.out _ (hA.below hB1)).mono ?_
    rintro e w3 ⟨rfl, rfl⟩
    go_wp2_with fail
    refine (HC.out _).mono ?_
    rintro e w3 ⟨rfl, rfl⟩
    go_wp2_with fail
    refine (implGroupsMost_any _ _ _ _ (hA.below hB1) hl).mono ?_
    rintro e w4 ⟨rfl, hB4⟩
    rw [HY.out]
    have hb4 := next hB1 hB4
    go_wp2_with fail
    go_ret
    exact ⟨by rw [HR.out]; rfl, hb4⟩

theorem isWithin_s (p s : Nat) (w : World) (hp : p < 128) (hs : s < 128) (b : Bool) (hb : Hid (decide (p &&& s = p) = b)) :
    Calls Try.prog 37 #[.int .i64 p, .int .i64 s] w fun e w' => e = .returned (.bool b) ∧ w' = w := (isWithin_n p s w hp hs b hb).mono fun _ _ h => ⟨h.1, h.2.symm⟩
theorem gCond_yes {xs : List Int} {left g : Nat} {y z u : Int} (h1 : g &&& left = g) (hy : gV xs g = y) (hz : gV xs (left - g) = z) (hu : gV xs left = u) : gCond xs left g = (y == 1 && z == u - 1) := by
  unfold gCond
  rw [decide_eq_true h1, hy, hz, hu]
  rfl
theorem gCond_not {xs : List Int} {left g : Nat} (h1 : ¬ g &&& left = g) : gCond xs left g = false := by
  unfold gCond
  rw [decide_eq_false h1]
  rfl

set_option maxRecDepth 100000 in
set_option maxHeartbeats 4000000 in
theorem firstGroup_any (A : Option Addr) (c : Nat) (T : List Int) (xs : List Int) (s : Nat) (w : World) (hA : IntsAt w A T) (hs0 : 0 < s) (hs : s < 128) (hT : s < T.length) (hTl : T.length ≤ 128) (HV : Hid (∀ p, p ≤ s → p &&& s = p → T[p]? = some (gV xs p))) (HR : Hid (∀ p, p ≤ s → -1 ≤ gV xs p ∧ gV xs p ≤ 7)) :
    Calls Try.prog 25 #[.slice A T.length c, .int .i64 s] w fun e w' => e = .returned (.int .i64 (gFirst xs s : Int)) ∧ Below w.heap.size w w' := by
  have hs1 : (s : Int) < T.length := by omega
  have hs2 : (0 : Int) ≤ s := by omega
  obtain ⟨u, HU⟩ : ∃ u, Hid (gV xs s = u) := ⟨_, hide rfl⟩
  have hur := HR.out s (Nat.le_refl _)
  have huv := HV.out s (Nat.le_refl _) (within_self s)
  rw [HU.out] at hur huv
  have HUV := hide huv
  have hwu : IntKind.i64.wrap (u - 1) = u - 1 := IntWalk.i64_in _ (by omega)
  clear huv
  go_enter Try.func25, Try.ntmps25
  go_wp2_with fail
  go_loopw [5] (fun gv wr => ∃ (g : Nat), 1 ≤ g ∧ g ≤ s ∧ gv = .int .i64 (g : Int) ∧ Hid (gFirst xs s = gFirstGo xs s (s - g) g) ∧ Below w.heap.size w wr) (fun gv _ => (s - (intOf gv).toNat))
  case atStart => exact ⟨1, by omega, by omega, rfl, hide rfl, Below.refl _ _⟩
  case round =>
    obtain ⟨g, hg1, hgs, rfl, HG, hb⟩ := hrel
    have hsz := hb.size
    by_cases hlt : g < s
    · have hg0 : (0 : Int) ≤ g := by omega
      have hg2 : (g : Int) < s := by omega
      have hg3 : (g : Int) < T.length := by omega
      have HST : Hid (gFirstGo xs s (s - g) g = if gCond xs s g = true then g else gFirstGo xs s (s - (g + 1)) (g + 1)) := hide (by
        rw [show s - g = (s - (g + 1)) + 1 from by omega, gFirstGo])
      by_cases hin : g &&& s = g
      · have HC := hide (fun W => isWithin_s g s W (by omega) hs true (hide (decide_eq_true hin)))
        obtain ⟨y, HY⟩ : ∃ y, Hid (gV xs g = y) := ⟨_, hide rfl⟩
        have hy := HV.out g (by omega) hin
        rw [HY.out] at hy
        obtain ⟨b, off, rfl, hbl, hcy⟩ := (hA.below hb) g y hy
        have hrin := rest_within s (Nat.le_refl _) hin
        obtain ⟨z, HZ⟩ : ∃ z, Hid (gV xs (s - g) = z) := ⟨_, hide rfl⟩
        have hz := HV.out (s - g) (by omega) hrin
        rw [HZ.out] at hz
        have hzr := HR.out (s - g) (by omega)
        rw [HZ.out] at hzr
        have HCD := hide (gCond_yes hin HY.out HZ.out HU.out)
        by_cases hy1 : y = 1
        · have hyb : (y == 1) = true := by simpa using hy1
          obtain ⟨b', off', e', -, hcz⟩ := (hA.below hb) (s - g) z hz
          injection e' with e'
          injection e' with e1 e2
          subst e1 e2
          obtain ⟨b', off', e', -, hcu⟩ := (hA.below hb) s u HUV.out
          injection e' with e'
          injection e' with e1 e2
          subst e1 e2
          have hw2 : bits .andNot .i64 (s : Int) (g : Int) = ((s - g : Nat) : Int) := by
            rw [andNot_n hs (by omega)]
            rw [Nat.and_comm, hin]
          obtain ⟨r, hr⟩ : ∃ r : Nat, r = s - g := ⟨_, rfl⟩
          rw [← hr] at hw2 hcz
          have hr0 : (0 : Int) ≤ r := by omega
          have hr1 : (r : Int) < T.length := by omega
          clear hy hz hin hrin hr
          by_cases hzu : z = u - 1
          · have hzb : (z == u - 1) = true := by simpa using hzu
            have H3 : Hid (gFirst xs s = g) := hide (by rw [HG.out, HST.out, HCD.out, hyb, hzb]; rfl)
            clear hzu hy1
            go_wp2_with fail
            go_quiet ((go_at_call 37; exact Calls.quiet_of_same (HC.out _)))
            go_wp2_with fail
            go_ret
            exact ⟨by rw [H3.out]; rfl, below_drewN hb _⟩
          · have hzb : (z == u - 1) = false := by simpa using hzu
            have H3 : Hid (gFirst xs s = gFirstGo xs s (s - (g + 1)) (g + 1)) := hide (by rw [HG.out, HST.out, HCD.out, hyb, hzb]; rfl)
            clear hzu hy1
            go_wp2_with fail
            go_quiet ((go_at_call 37; exact Calls.quiet_of_same (HC.out _)))
            go_wp2_with fail
            go_roundw
            case rel => exact ⟨g + 1, by omega, by omega, by go_num, H3, below_drewN hb _⟩
            case measure => simp [intOf]; omega
        · have hyb : (y == 1) = false := by simpa using hy1
          have H3 : Hid (gFirst xs s = gFirstGo xs s (s - (g + 1)) (g + 1)) := hide (by rw [HG.out, HST.out, HCD.out, hyb]; rfl)
          clear hy hz hin hrin hy1
          go_wp2_with fail
          go_quiet ((go_at_call 37; exact Calls.quiet_of_same (HC.out _)))
          go_wp2_with fail
          go_roundw
          case rel => exact ⟨g + 1, by omega, by omega, by go_num, H3, below_drewN hb _⟩
          case measure => simp [intOf]; omega
      · have HC := hide (fun W => isWithin_s g s W (by omega) hs false (hide (decide_eq_false hin)))
        have H3 : Hid (gFirst xs s = gFirstGo xs s (s - (g + 1)) (g + 1)) := hide (by rw [HG.out, HST.out, gCond_not hin]; rfl)
        clear hin
        go_wp2_with fail
        go_quiet ((go_at_call 37; exact Calls.quiet_of_same (HC.out _)))
        go_wp2_with fail
        go_roundw
        case rel => exact ⟨g + 1, by omega, by omega, by go_num, H3, below_drewN hb _⟩
        case measure => simp [intOf]; omega
    · obtain rfl : g = s := by omega
      have H3 : Hid (gFirst xs g = g) := hide (by rw [HG.out, Nat.sub_self]; rfl)
      go_wp2_with fail
      go_ret
      exact ⟨by rw [H3.out]; rfl, hb⟩

theorem wpList_spreadN_pay {W : World} {ops : Array Oper} {rest : List Oper} {o : Oper} {a : Act} {Q : Exit → Act → World → Prop} (hgd : o.guard = none) (s x : Operand)
    (ho : o.op = .call { callee := .builtin .append, args := #[s, x], argTypes := #[27, 27] }) (lo : Nat) (v : Value) (ls : List Pay) (hs : a.eval s = v) (hown : PaySl W lo v ls)
    (ad : Addr) (m c : Nat) (hm0 : 0 < m) (xs : List Pay) (hm : xs.length = m) (hx : a.eval x = .slice (some ad) m c) (hA : PaysAt W (some ad) xs) (hn : ls.length + m ≤ 1048576) (hlo : lo ≤ W.heap.size)
    (h : ∀ g cap w', PaySl w' lo (.slice (some ⟨g, 0, none⟩) (ls.length + m) cap) (ls ++ xs) → W.grownBy w' v.ownBlock → wpList Try.prog ops Q rest (a.put o.dst (.slice (some ⟨g, 0, none⟩) (ls.length + m) cap)) w') : wpList Try.prog ops Q (o :: rest) a W :=
  wpList_plain hgd fun _ hK => by
    obtain ⟨i0, hi, hz0, hz1, hz2⟩ := info_parts infoPay
    subst hm
    refine wp_spreadN s x 27 ho lo 38 i0 _ 3 24 Try.underlying27 hi hz0 hz1 hz2 rfl (by decide) v ls.length (payCells ls) hs hown ad xs.length c hm0 (payCells xs) hx (payCells_len xs) (pays_news hA) payCells_one (by unfold maxLen; omega) (by omega) hlo ?_
    intro g cap w' h1 h2
    refine hK _ _ (h g cap w' ?_ h2)
    unfold PaySl
    rw [List.length_append]
    rw [show payCells (ls ++ xs) = payCells ls ++ payCells xs from by simp [payCells]]
    exact h1

structure GStep (xs : List Int) (left p : Nat) : Prop where
  pos : 1 ≤ p
  within : p &&& left = p
  le : p ≤ left
  lt : p < 128
  zero : sumL (gSub xs p) = 0
  open_ : p &&& gSet xs = p
  rest0 : sumL (gSub xs (left - p)) = 0
  restw : (left - p) &&& gSet xs = left - p
  some_ : 1 ≤ (settleFastL (gPart xs p)).length
  few : (settleFastL (gPart xs p)).length + (gSub xs (left - p)).length + 1 ≤ (gSub xs left).length
theorem gStep_of {xs : List Int} {left : Nat} (hok : owedOk xs = true) (hw : left &&& gSet xs = left) (h0 : sumL (gSub xs left) = 0) (hl : 0 < left) : GStep xs left (gFirst xs left) := by
  have hg := gFirst_is (gSub_lt hw) h0 hl
  generalize gFirst xs left = p at *
  obtain ⟨h1, h2, h3, h4⟩ := hg
  have hle := within_le h2
  have hpw := within_trans h2 hw
  have hp0 : sumL (gSub xs p) = 0 := (gV_not (by omega)).1 (by omega)
  have hsh := gSub_shuf xs h2
  have hr0 : sumL (gSub xs (left - p)) = 0 := by
    have := hsh.sum
    omega
  have h7 := owedOk_len hok
  have hrw := within_trans (rest_within left (Nat.le_refl _) h2) hw
  have hpl := gMost_part hpw
  have hpo := gPart_ok hok hp0
  have hfs := settleFast_said hpo
  have hne := gSub_ne xs p (gSub_lt hpw) (by omega)
  have hlp : 0 < (gSub xs p).length := List.length_pos_iff.2 hne
  have hfl := hfs.2.2 (by omega)
  have hsl7 := gSub_len xs p
  have hlo := (pays_least hfs.1 (by omega)).2
  have hhalf := gMost_half hpo
  unfold settleLeastL at hlo
  rw [if_pos hpo, hpl.1, hpl.2, h3] at hlo
  rw [hpl.1, hpl.2, h3] at hhalf
  have hlen := hsh.len
  have := gSet_128 h7
  have := within_le hw
  exact ⟨h1, h2, hle, by omega, hp0, hpw, hr0, hrw, by omega, by omega⟩

set_option maxRecDepth 100000 in
set_option maxHeartbeats 4000000 in
theorem implSettleBest_any (A : Option Addr) (c : Nat) (xs : List Int) (w : World) (hA : IntsAt w A xs) (hl : xs.length ≤ 1048576) :
    Calls Try.prog 10 #[.slice A xs.length c] w fun e w' => ∃ v, e = .returned v ∧ PaySl w' w.heap.size v (settleBestL xs) ∧ Below w.heap.size w w' := by
  cases hI : owedOk xs with
  | false =>
    have HI := hide hI
    have HR : Hid (settleBestL xs = []) := hide (by unfold settleBestL; rw [hI]; rfl)
    clear hI
    go_enter Try.func10, Try.ntmps10
    go_wp2_with fail
    refine (implOwedValid_any _ _ _ _ hA hl).mono ?_
    rintro e w1 ⟨rfl, hB1⟩
    rw [HI.out]
    go_wp2_with fail
    refine bodyPost_ret (results_tmp rfl _ _ _) rfl ⟨.slice none 0 0, rfl, by rw [HR.out]; exact World.ownsRow_nil _ _ _ _, hB1⟩
  | true =>
    have HI := hide hI
    have h7 := owedOk_len hI
    obtain ⟨i, hi⟩ : ∃ i : Nat, gSet xs = i := ⟨_, rfl⟩
    have HG := hide hi
    have hi128 : i < 128 := by rw [← hi]; exact gSet_128 h7
    have HO : Hid (∀ W, IntsAt W A xs → Calls Try.prog 19 #[.slice A xs.length c] W fun e w' => e = .returned (.int .i64 (i : Int)) ∧ W = w') := hide (fun W h => by
      rw [← hi, ← openS_set]
      exact openSet_any A c xs W h h7)
    have HR : Hid (settleBestL xs = [] ++ groupGo xs i i) := hide (by unfold settleBestL; rw [if_pos hI, hi]; rfl)
    have HS0 : Hid (sumL (gSub xs i) = 0) := hide (by rw [← hi]; exact owed_sum0 hI)
    have HLT : Hid (∀ s, s ≤ i → s < 2 ^ xs.length) := hide (fun s hs => by have := gSet_lt xs; omega)
    have HL7 := hide (gSub_len xs i)
    clear hI hi
    go_enter Try.func10, Try.ntmps10
    go_wp2_with fail
    refine (implOwedValid_any _ _ _ _ hA hl).mono ?_
    rintro e w1 ⟨rfl, hB1⟩
    rw [HI.out]
    go_wp2_with fail
    refine (groupTable_any A c xs (i + 1) _ (hA.below hB1) HI (hide (by rw [HG.out]))).mono ?_
    rintro e w2 ⟨gt, rfl, hS, hB2⟩
    have hb2 := next hB1 hB2
    have HS := hide (IntSl.mono hS hB1.size)
    clear hS hB1 hB2
    go_wp2_with fail
    refine (HO.out _ (hA.below hb2)).mono ?_
    rintro e w3 ⟨rfl, rfl⟩
    go_wp2_with fail
    go_loopw [3, 5] (fun lv left wr => ∃ (ls : List Pay) (m f : Nat), m ≤ f ∧ m ≤ i ∧ left = .int .i64 (m : Int) ∧ PaySl wr w.heap.size lv ls ∧ Hid (m &&& gSet xs = m) ∧ Hid (sumL (gSub xs m) = 0) ∧ Hid (settleBestL xs = ls ++ groupGo xs f m) ∧ Hid (ls.length + (gSub xs m).length ≤ 7) ∧ IntSl wr w.heap.size (.slice (some ⟨gt, 0, none⟩) (i + 1) (i + 1)) (grpTo xs (i + 1) (i + 1)) ∧ Below w.heap.size w wr) (fun _ left _ => (intOf left).toNat)
    case atStart => exact ⟨[], i, i, Nat.le_refl _, Nat.le_refl _, rfl, World.ownsRow_nil _ _ _ _, hide (by rw [HG.out]; exact within_self i), HS0, HR, hide (by have := HL7.out; simp; omega), HS.out, hb2⟩
    case round =>
      clear HS hb2 HS0 HR HL7
      obtain ⟨ls, m, f, hmf, hmi, rfl, hP, HW, H0, HB, HL, hS, hb⟩ := hrel
      have hsz := hb.size
      by_cases hm : m = 0
      · subst hm
        have H3 : Hid (settleBestL xs = ls) := hide (by rw [HB.out, groupGo_zero, List.append_nil])
        go_wp2_with fail
        refine bodyPost_ret (results_tmp rfl _ _ _) rfl ⟨_, rfl, by rw [H3.out]; exact hP, hb⟩
      · obtain ⟨f', rfl⟩ : ∃ f', f = f' + 1 := ⟨f - 1, by omega⟩
        have hmb : ((m : Int) != 0) = true := by simp; omega
        have hgs := gStep_of HI.out HW.out H0.out (by omega)
        have HB2 : Hid (settleBestL xs = (ls ++ settleFastL (gPart xs (gFirst xs m))) ++ groupGo xs f' (m - gFirst xs m)) := hide (by rw [HB.out, groupGo, if_neg hm, List.append_assoc])
        have hHL := HL.out
        have HV : Hid (∀ p, p ≤ m → p &&& m = p → (grpTo xs (i + 1) (i + 1))[p]? = some (gV xs p)) := hide (fun p h1 h2 => grpTo_all (by omega) (within_trans h2 HW.out))
        have HRR : Hid (∀ p, p ≤ m → -1 ≤ gV xs p ∧ gV xs p ≤ 7) := hide (fun p hp => gV_7 h7 (HLT.out p (by omega)))
        have hfg := fun W h => firstGroup_any (some ⟨gt, 0, none⟩) (i + 1) (grpTo xs (i + 1) (i + 1)) xs m W h (by omega) (by omega) (by rw [grpTo_len]; omega) (by rw [grpTo_len]; omega) HV HRR
        rw [grpTo_len] at hfg
        have HFG := hide hfg
        obtain ⟨p, hp⟩ : ∃ p, gFirst xs m = p := ⟨_, rfl⟩
        rw [hp] at hgs HB2
        have HP := hide hp
        obtain ⟨g1, g2, g3, g4, g5, g6, g7, g8, g9, g10⟩ := hgs
        have HW2 := hide g8
        have H02 := hide g7
        have hpl := gPart_len xs p
        have HPL := hide hpl
        have HIN := hide g2
        have HG9 := hide g9
        have HG10 : Hid (ls.length + (settleFastL (gPart xs p)).length + (gSub xs (m - p)).length ≤ 7) := hide (by omega)
        clear hm hfg hp g2 g5 g6 g7 g8 g9 g10 hpl hHL
        go_wp2_with fail
        refine (HFG.out _ hS.ints).mono ?_
        rintro e w3 ⟨rfl, hB3⟩
        rw [HP.out]
        have hb3 := next hb hB3
        have hP3 := PaySl.below hP hB3
        have hS3 := IntSl.below hS hB3
        clear hP hS hB3
        go_wp2_with fail
        refine (owedIn_any A c xs p _ (hA.below hb3) h7 g4).mono ?_
        rintro e w4 ⟨g4', rfl, hQ4, hB4⟩
        have hb4 := next hb3 hB4
        have hP4 := PaySl.below hP3 hB4
        have hS4 := IntSl.below hS3 hB4
        have hI4 := hQ4.ints
        clear hP3 hS3 hB4
        have hsf := implSettleFast_any ⟨g4', 0, none⟩ xs.length (gPart xs p) w4 hI4 (by rw [HPL.out]; omega)
        rw [HPL.out] at hsf
        have HSF := hide hsf
        clear hsf hQ4
        go_wp2_with fail
        refine HSF.out.mono ?_
        rintro e w5 ⟨fv, rfl, hF5, hB5⟩
        have hb5 := next hb4 hB5
        have hP5 := PaySl.below hP4 hB5
        have hS5 := IntSl.below hS4 hB5
        obtain ⟨A5, c5, hv5, hF5a, -⟩ := hF5.form
        obtain ⟨n5, hn5⟩ : ∃ n5, (settleFastL (gPart xs p)).length = n5 := ⟨_, rfl⟩
        have hlen5 := HG10.out
        have hpos5 := HG9.out
        rw [hn5] at hv5 hlen5 hpos5
        subst hv5
        obtain ⟨a5, rfl⟩ : ∃ a5, A5 = some a5 := by
          obtain ⟨b, off, e, -⟩ := hF5a 0 _ (List.getElem?_eq_getElem (show 0 < (settleFastL (gPart xs p)).length by omega))
          exact ⟨_, e⟩
        have HN5 := hide hn5
        have HP5 := hide hP5
        have HS5 := hide hS5
        have HF5 := hide hF5a
        have HAP := hide (rows_apart hS5 hP5 (by decide))
        have HLT5 := hide (World.ownsRow.lt hP5)
        have hsz5 := hb5.size
        clear hP4 hS4 hP5 hS5 hF5 hF5a hB5 hn5 hI4
        go_wp2_with (at_builtin; refine wpList_spreadN_pay rfl _ _ rfl w.heap.size u3 ls rfl HP5.out a5 n5 c5 (by omega) (settleFastL (gPart xs p)) HN5.out rfl HF5.out (by omega) (by omega) ?_; intro gg cap w6 hown hgrow)
        have hb6 : Below w.heap.size w w6 := hb5.grown hgrow (by omega) (fun k hk => (HLT5.out k hk).1)
        have hS6 : IntSl w6 w.heap.size (.slice (some ⟨gt, 0, none⟩) (i + 1) (i + 1)) (grpTo xs (i + 1) (i + 1)) := HS5.out.row hgrow HAP.out
        have hw2 : bits .andNot .i64 (m : Int) (p : Int) = ((m - p : Nat) : Int) := by
          rw [andNot_n (by omega) g4]
          rw [Nat.and_comm, HIN.out]
        have HLS : Hid ((ls ++ settleFastL (gPart xs p)).length = ls.length + n5) := hide (by rw [List.length_append, HN5.out])
        clear hgrow
        go_wp2_with fail
        go_roundw
        case rel => exact ⟨ls ++ settleFastL (gPart xs p), m - p, f', by omega, by omega, by rw [hw2], hown, HW2, H02, HB2, hide (by rw [HLS.out]; omega), hS6, hb6⟩
        case measure => simp [intOf]; omega
end Go.Proofs.Ytgagfaajilbmmab
