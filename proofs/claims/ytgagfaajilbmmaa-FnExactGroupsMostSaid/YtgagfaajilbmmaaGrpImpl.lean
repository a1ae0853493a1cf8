/- GrpImpl: contracts of GroupsMost, SettleLeast, firstGroup and SettleBest of the program.
   Conditions: lists have at most 1048576 elements. -/
import Derived.Test.YtgagfaajilbmmaaGrpTable
import Derived.Test.YtgagfaajilbmmaaSpreadN
namespace Go.Proofs.Ytgagfaajilbmmaa
open Go.RowKit Go.ChangeShapes Go.WideShapes Go.ChangeAt Go.Deep

theorem gV_set {xs : List Int} (h : owedOk xs = true) : groupsMostL xs = gV xs (gSet xs) := by unfold groupsMostL gMost; rw [if_pos h]

set_option maxHeartbeats 1000000 in
theorem implGroupsMost_any (A : Option Addr) (c : Nat) (xs : List Int) (w : World) (hA : IntsAt w A xs) (hl : xs.length ≤ 1048576) :
    Calls Try.prog 26 #[.slice A xs.length c] w fun e w' => e = .returned (.int .i64 (groupsMostL xs)) ∧ Below w.heap.size w w' := by
  cases hI : owedOk xs with
  | false =>
    have HI := hide hI
    have HR : Hid (groupsMostL xs = -1) := hide (by unfold groupsMostL; rw [hI]; rfl)
    clear hI
    go_enter Try.func26, Try.ntmps26
    go_wp2_with fail
    refine (implOwedValid_any _ _ _ _ hA hl).mono ?_
    rintro e w1 ⟨rfl, hB1⟩
    rw [HI.out]
    go_wp2_with fail
    go_ret
    exact ⟨by rw [HR.out]; rfl, hB1⟩
  | true =>
    have HI := hide hI
    have h7 := owedOk_len hI
    obtain ⟨y, HY⟩ : ∃ y, Hid (groupsMostL xs = y) := ⟨_, hide rfl⟩
    have HV : Hid (gV xs (gSet xs) = y) := hide (by rw [← HY.out, gV_set hI])
    obtain ⟨i, hi⟩ : ∃ i : Nat, gSet xs = i := ⟨_, rfl⟩
    have HG := hide hi
    have hi128 : i < 128 := by rw [← hi]; exact gSet_128 h7
    have HO : Hid (∀ W, IntsAt W A xs → Calls Try.prog 54 #[.slice A xs.length c] W fun e w' => e = .returned (.int .i64 (i : Int)) ∧ W = w') := hide (fun W h => by
      rw [← hi, ← openS_set]
      exact openSet_any A c xs W h h7)
    clear hI hi
    go_enter Try.func26, Try.ntmps26
    go_wp2_with fail
    refine (implOwedValid_any _ _ _ _ hA hl).mono ?_
    rintro e w1 ⟨rfl, hB1⟩
    rw [HI.out]
    go_wp2_with fail
    refine (groupTable_any A c xs (i + 1) _ (hA.below hB1) HI (hide (by rw [HG.out]))).mono ?_
    rintro e w2 ⟨g, rfl, hS, hB2⟩
    have hb2 := next hB1 hB2
    have hcell := hS.cellAt (grpTo_all (xs := xs) (N := i + 1) (j := i) (by omega) (by rw [HG.out]; exact within_self i))
    rw [← HG.out, HV.out, HG.out] at hcell
    have hi0 : (0 : Int) ≤ i := by omega
    have hi1 : (i : Int) < ((i + 1 : Nat) : Int) := by omega
    clear hS hB2
    go_wp2_with fail
    refine (HO.out _ (hA.below hb2)).mono ?_
    rintro e w3 ⟨rfl, rfl⟩
    go_wp2_with fail
    go_ret
    exact ⟨by rw [HY.out]; rfl, hb2⟩

theorem isWithin_s (p s : Nat) (w : World) (hp : p < 128) (hs : s < 128) (b : Bool) (hb : Hid (decide (p &&& s = p) = b)) :
    Calls Try.prog 72 #[.int .i64 p, .int .i64 s] w fun e w' => e = .returned (.bool b) ∧ w' = w := (isWithin_n p s w hp hs b hb).mono fun _ _ h => ⟨h.1, h.2.symm⟩
theorem gCond_yes {xs : List Int} {left g : Nat} {y z u : Int} (h1 : g &&& left = g) (hy : gV xs g = y) (hz : gV xs (left - g) = z) (hu : gV xs left = u) : gCond xs left g = (y == 1 && z == u - 1) := by
  unfold gCond
  rw [decide_eq_true h1, hy, hz, hu]
  rfl
theorem gCond_not {xs : List Int} {left g : Nat} (h1 : ¬ g &&& left = g) : gCond xs left g = false := by
  unfold gCond
  rw [decide_eq_false h1]
  rfl

structure GStep (xs : List Int) (left p : Nat) : Prop where
  pos : 1 ≤ p
  within : p &&& left = p
  le : p ≤ left
  lt : p < 128
  zero : sumL (gSub xs p) = 0
  open_ : p &&& gSet xs = p
  rest0 : sumL (gSub xs (left - p)) = 0
  restw : (left - p) &&& gSet xs = left - p
  some_ : 1 ≤ (settleFastL (gPart xs p)).length
  few : (settleFastL (gPart xs p)).length + (gSub xs (left - p)).length + 1 ≤ (gSub xs left).length
theorem gStep_of {xs : List Int} {left : Nat} (hok : owedOk xs = true) (hw : left &&& gSet xs = left) (h0 : sumL (gSub xs left) = 0) (hl : 0 < left) : GStep xs left (gFirst xs left) := by
  have hg := gFirst_is (gSub_lt hw) h0 hl
  generalize gFirst xs left = p at *
  obtain ⟨h1, h2, h3, h4⟩ := hg
  have hle := within_le h2
  have hpw := within_trans h2 hw
  have hp0 : sumL (gSub xs p) = 0 := (gV_not (by omega)).1 (by omega)
  have hsh := gSub_shuf xs h2
  have hr0 : sumL (gSub xs (left - p)) = 0 := by
    have := hsh.sum
    omega
  have h7 := owedOk_len hok
  have hrw := within_trans (rest_within left (Nat.le_refl _) h2) hw
  have hpl := gMost_part hpw
  have hpo := gPart_ok hok hp0
  have hfs := settleFast_said hpo
  have hne := gSub_ne xs p (gSub_lt hpw) (by omega)
  have hlp : 0 < (gSub xs p).length := List.length_pos_iff.2 hne
  have hfl := hfs.2.2 (by omega)
  have hsl7 := gSub_len xs p
  have hlo := (pays_least hfs.1 (by omega)).2
  have hhalf := gMost_half hpo
  unfold settleLeastL at hlo
  rw [if_pos hpo, hpl.1, hpl.2, h3] at hlo
  rw [hpl.1, hpl.2, h3] at hhalf
  have hlen := hsh.len
  have := gSet_128 h7
  have := within_le hw
  exact ⟨h1, h2, hle, by omega, hp0, hpw, hr0, hrw, by omega, by omega⟩

end Go.Proofs.Ytgagfaajilbmmaa
