/- For all drawn bytes the law of UseOk answers true, and its argument reads as it did.
   Conditions: none. -/
import Derived.Test.YtndcanllkmfahaaDoorLawKit
import Derived.Test.YtndcanllkmfahaaDoorDrawUse
import Derived.Test.YtndcanllkmfahaaDoorTakeMath5
namespace Go.Proofs.YtndcanllkmfahaaDoor
open Go.RowKit Go.ChangeShapes Go.WideShapes Go.ChangeAt

def DrawnUse (w : World) (e : Ending) (w' : World) : Prop := ∃ (ls : List Lot) (g c : Nat) (xs : List Int) (h c2 : Nat) (rows : List (List Int)) (A : Option Addr) (c3 : Nat), e = .returned (.tuple #[.slice (some ⟨g, 0, none⟩) ls.length c, .slice (some ⟨h, 0, none⟩) xs.length c2, .slice A rows.length c3]) ∧
  LotsAt w' (some ⟨g, 0, none⟩) ls ∧ IntsAt w' (some ⟨h, 0, none⟩) xs ∧ RowsAt w' A rows ∧ ls.length ≤ 6 ∧ xs.length ≤ 7 ∧ rows.length ≤ 7 ∧ RowsIn 10 rows ∧ xs.length ≤ c2 ∧ Below w.heap.size w w'

set_option maxHeartbeats 1000000 in
theorem drawUseOk_any (A : Option Addr) (c m : Nat) (w : World) (hB : BytesIn w A m) (hm : m ≤ 9223372036854775807) (hc : m ≤ c) (hc2 : c ≤ 9223372036854775807) :
    Calls Tryd.prog 22 #[.slice A m c] w (DrawnUse w) := by
  go_enter Tryd.func22, Tryd.ntmps22
  go_wp2_with fail
  refine (open_any A c m w hB hm hc hc2).mono ?_
  rintro e w1 ⟨rfl, hR1, hb1⟩
  have hz1 := hb1.size
  go_wp2_with fail
  refine (l20Use_any w.heap.size 0 _ hR1 (by omega)).mono ?_
  rintro e w2 ⟨ls, g, c2, xs, h, c3, rows, A2, c4, rfl, hS2, hX2, hU2, hl, hx, hr, hin, hxc, hg2⟩
  have hb2 : Below w.heap.size w w2 := hb1.grown hg2 hz1 (fun j hj => by injection hj with hj; omega)
  have HI := hide hS2
  have HX := hide hX2
  have HU := hide hU2
  have HIN := hide hin
  clear hS2 hX2 hU2 hg2 hin
  go_wp2_with fail
  refine bodyPost_ret (results_tmp3 rfl _ _ _) rfl ⟨ls, g, c2, xs, h, c3, rows, A2, c4, rfl, HI.out, HX.out, HU.out, hl, hx, hr, HIN.out, hxc, hb2⟩

set_option maxRecDepth 100000 in
set_option maxHeartbeats 4000000 in
theorem lawUseOk_any (A : Option Addr) (c m : Nat) (w : World) (hB : BytesIn w A m) (hc : m ≤ c) (hc2 : c ≤ 9223372036854775807) :
    Calls Tryd.prog 5 #[.slice A m c] w fun e w' => e = .returned (.bool true) ∧ Below w.heap.size w w' := by
  by_cases hlen : (1048576 : Int) < m
  · go_enter Tryd.func5, Tryd.ntmps5
    go_wp2_with fail
    go_ret
    exact ⟨rfl, by go_grown⟩
  · go_enter Tryd.func5, Tryd.ntmps5
    go_wp2_with fail
    refine (drawUseOk_any A c m w hB (by omega) hc hc2).mono ?_
    rintro e w1 ⟨ls, g, c1, xs, h, c2, rows, A2, c3, rfl, hI, hX, hU, hl, hx, hr, hin, hcap, hb1⟩
    have hl' : ls.length ≤ 1048576 := by omega
    have hx' : xs.length ≤ 1048576 := by omega
    have hr' : rows.length ≤ 1048576 := by omega
    have HRR : Hid (∀ x ∈ rows, x.length ≤ 1048576) := hide (fun x hx => Nat.le_trans (hin x hx).1 (by omega))
    have HI := hide hI
    have HX := hide hX
    have HU := hide hU
    clear hI hX hU hin
    obtain ⟨v, HV⟩ : ∃ v, Hid (useOkL ls xs rows = v) := ⟨_, hide rfl⟩
    have hbb : (v != v) = false := by simp
    go_wp2_with fail
    refine (implUseOk_any _ _ _ _ _ _ _ _ _ _ HI.out hl' HX.out hx' HU.out hr' HRR.out).mono ?_
    rintro e w2 ⟨rfl, hB2⟩
    rw [HV.out]
    have hb2 := next hb1 hB2
    have HI2 := hide (HI.out.below hB2)
    have HX2 := hide (HX.out.below hB2)
    have HU2 := hide (HU.out.below hB2)
    clear hB2 HI HX HU
    go_wp2_with fail
    refine (specUseOk_any _ _ _ _ _ _ _ _ _ _ HI2.out hl' HX2.out hx' HU2.out hr' HRR.out).mono ?_
    rintro e w3 ⟨rfl, hB3⟩
    rw [HV.out]
    have hb3 := next hb2 hB3
    have HI3 := hide (HI2.out.below hB3)
    have HX3 := hide (HX2.out.below hB3)
    have HU3 := hide (HU2.out.below hB3)
    clear hB3 HI2 HX2 HU2
    cases v with
    | false =>
      go_wp2_with fail
      refine (alive_any _).mono ?_
      rintro e w5 ⟨rfl, hB5⟩
      go_wp2_with fail
      go_ret
      exact ⟨rfl, next hb3 hB5⟩
    | true =>
      obtain ⟨hs0, hs1, hsm, hsb⟩ := useOk_said HV.out
      obtain ⟨s, hs⟩ : ∃ s, useSumW rows = s := ⟨_, rfl⟩
      rw [hs] at hs0 hs1 hsm hsb
      have HS := hide hs
      have HSB := hide hsb
      obtain ⟨y, HY⟩ : ∃ y, Hid (useMostL ls xs = y) := ⟨_, hide rfl⟩
      rw [HY.out] at hsm
      clear hs hsb
      go_wp2_with fail
      refine (implUseSum_any _ _ _ _ HU3.out hr' HRR.out).mono ?_
      rintro e w4 ⟨rfl, hB4⟩
      rw [HS.out]
      have hb4 := next hb3 hB4
      have HI4 := hide (HI3.out.below hB4)
      have HX4 := hide (HX3.out.below hB4)
      clear hB4 HI3 HX3 HU3
      go_wp2_with fail
      go_loopw [8] (fun iv wq => ∃ D : Nat, D ≤ 7 ∧ iv = .int .i64 D ∧ Below w4.heap.size w4 wq) (fun iv _ => 8 - (intOf iv).toNat)
      case atStart => exact ⟨0, Nat.zero_le _, rfl, Below.refl _ _⟩
      case round =>
        obtain ⟨D, hD, rfl, hd⟩ := hrel
        have hb := next hb4 hd
        have HI5 := hide (HI4.out.below hd)
        have HX5 := hide (HX4.out.below hd)
        by_cases hlt : D ≤ 6
        · have hD6 : (D : Int) ≤ 6 := by omega
          obtain ⟨u, hu⟩ : ∃ u, useBoundL ls xs (D : Int) = u := ⟨_, rfl⟩
          have hsu := HSB.out D (by omega) hD6
          rw [hu] at hsu
          have hgt : decide (u < s) = false := decide_eq_false (by omega)
          have HU9 := hide hu
          clear hu
          go_wp2_with fail
          refine (implUseBound_any _ _ _ _ _ _ _ _ HI5.out hl' HX5.out hx' hcap).mono ?_
          rintro e w6 ⟨rfl, hB6⟩
          rw [HU9.out]
          have hd6 := next hd hB6
          clear hB6
          go_wp2_with fail
          go_roundw
          case rel => exact ⟨D + 1, by omega, by go_num, hd6⟩
          case measure => simp [intOf]; omega
        · have hD6 : ¬ (D : Int) ≤ 6 := by omega
          go_wp2_with fail
          refine (implUseMost_any _ _ _ _ _ _ _ HI5.out hl' HX5.out hx').mono ?_
          rintro e w6 ⟨rfl, hB6⟩
          rw [HY.out]
          go_wp2_with fail
          go_ret
          exact ⟨rfl, next hb hB6⟩
end Go.Proofs.YtndcanllkmfahaaDoor
