/- For all drawn bytes the law of BurnEnd answers true, and its argument reads as it did.
   Conditions: none. -/
import Derived.Test.YteloapholoechaaDoorLawKit
import Derived.Test.YteloapholoechaaDoorDrawBurn
import Derived.Test.YteloapholoechaaDoorBurnL
namespace Go.Proofs.YteloapholoechaaDoor
open Go.RowKit Go.ChangeShapes Go.WideShapes Go.ChangeAt

def DrawnBurnE (w : World) (e : Ending) (w' : World) : Prop := ∃ (xs os : List Int) (s : Int) (g c g2 c2 : Nat), e = .returned (.tuple #[.slice (some ⟨g, 0, none⟩) xs.length c, .int .i64 s, .slice (some ⟨g2, 0, none⟩) os.length c2]) ∧ IntsAt w' (some ⟨g, 0, none⟩) xs ∧ IntsAt w' (some ⟨g2, 0, none⟩) os ∧ xs.length ≤ 7 ∧ os.length ≤ 8 ∧ -2 ≤ s ∧ s ≤ 6 ∧ xs.length ≤ c ∧ Below w.heap.size w w'

set_option maxHeartbeats 1000000 in
theorem drawBurnEnd_any (A : Option Addr) (c m : Nat) (w : World) (hB : BytesIn w A m) (hm : m ≤ 9223372036854775807) (hc : m ≤ c) (hc2 : c ≤ 9223372036854775807) :
    Calls Tryd.prog 27 #[.slice A m c] w (DrawnBurnE w) := by
  go_enter Tryd.func27, Tryd.ntmps27
  go_wp2_with fail
  refine (open_any A c m w hB hm hc hc2).mono ?_
  rintro e w1 ⟨rfl, hR1, hb1⟩
  have hz1 := hb1.size
  go_wp2_with fail
  refine (l20Burn_any w.heap.size 0 _ hR1 (by omega)).mono ?_
  rintro e w2 ⟨xs, os, s, g, c2, g2, c3, rfl, hS2, hO2, hl, hol, hs0, hs1, hg2⟩
  have hb2 : Below w.heap.size w w2 := hb1.grown hg2 hz1 (fun j hj => by injection hj with hj; omega)
  have HI := hide hS2.ints
  have HO := hide hO2.ints
  have hcc := (IntSl.capI hS2).2.1
  clear hS2 hg2 hO2
  go_wp2_with fail
  refine bodyPost_ret (results_tmp3 rfl _ _ _) rfl ⟨xs, os, s, g, c2, g2, c3, rfl, HI.out, HO.out, hl, hol, hs0, hs1, hcc, hb2⟩

set_option maxRecDepth 100000 in
set_option maxHeartbeats 4000000 in
theorem lawBurnEnd_any (A : Option Addr) (c m : Nat) (w : World) (hB : BytesIn w A m) (hc : m ≤ c) (hc2 : c ≤ 9223372036854775807) :
    Calls Tryd.prog 6 #[.slice A m c] w fun e w' => e = .returned (.bool true) ∧ Below w.heap.size w w' := by
  by_cases hlen : (1048576 : Int) < m
  · go_enter Tryd.func6, Tryd.ntmps6
    go_wp2_with fail
    go_ret
    exact ⟨rfl, by go_grown⟩
  · go_enter Tryd.func6, Tryd.ntmps6
    go_wp2_with fail
    refine (drawBurnEnd_any A c m w hB (by omega) hc hc2).mono ?_
    rintro e w1 ⟨xs, os, s, g, c1, g2, c2, rfl, hI, hJ, hl, hol, -, -, hcc, hb1⟩
    have hl' : xs.length ≤ 1048576 := by omega
    have ho' : os.length ≤ 1048576 := by omega
    have HI := hide hI
    have HJ := hide hJ
    clear hI hJ
    obtain ⟨v, HV⟩ : ∃ v, Hid (burnEndL xs s os = v) := ⟨_, hide rfl⟩
    have hbb : (v != v) = false := by simp
    go_wp2_with fail
    refine (implBurnEnd_any _ _ _ _ _ _ _ _ HI.out hl' HJ.out ho').mono ?_
    rintro e w2 ⟨rfl, hB2⟩
    have hb2 := next hb1 hB2
    have HI2 := hide (HI.out.below hB2)
    have HJ2 := hide (HJ.out.below hB2)
    rw [HV.out]
    clear hB2 HI HJ
    go_wp2_with fail
    refine (specBurnEnd_any _ _ _ _ _ _ _ _ HI2.out hl' HJ2.out ho').mono ?_
    rintro e w3 ⟨rfl, hB3⟩
    have hb3 := next hb2 hB3
    have HI3 := hide (HI2.out.below hB3)
    rw [HV.out]
    clear hB3 HI2 HJ2
    cases hok : burnOkL xs s os with
    | false =>
      obtain rfl : v = -1 := by rw [← HV.out]; unfold burnEndL; rw [hok]; rfl
      go_wp2_with fail
      refine (alive_any _).mono ?_
      rintro e w6 ⟨rfl, hB6⟩
      go_wp2_with fail
      go_ret
      exact ⟨rfl, next hb3 hB6⟩
    | true =>
      obtain ⟨q1, q2, q3, q4⟩ := burnEnd_said hok
      obtain ⟨v0, v1⟩ := burnEnd_nn hok
      obtain ⟨hsp, -, -, n, rfl, hn1, hn3⟩ := burnOkL_parts hok
      rw [HV.out] at q1 q2 q4 v0 v1
      obtain ⟨L, hL⟩ : ∃ L, burnLeastL xs n = L := ⟨_, rfl⟩
      rw [hL] at q3 q4
      have HL := hide hL
      have hrg := spans_rng hsp
      have h6 := spansOk_len hsp
      have HSW : Hid (sumW xs = sumL xs) := hide (sumW_plain (hi := 30) hrg (by omega) (by omega))
      obtain ⟨S, hS⟩ : ∃ S, sumL xs = S := ⟨_, rfl⟩
      have hS0 := sumL_range (hi := 30) hrg
      rw [hS] at q2 hS0
      have HS := hide hS
      obtain ⟨P, hP⟩ : ∃ P, (n : Int) * v = P := ⟨_, rfl⟩
      have hP0 : P ≤ 540 ∧ 0 ≤ P := by rcases (by omega : n = 1 ∨ n = 2 ∨ n = 3) with rfl | rfl | rfl <;> omega
      rw [hP] at q2
      have HQ1 := hide q1
      have hPw : IntKind.i64.wrap ((n : Int) * v) = P := by rw [hP]; exact IntWalk.i64_in _ (by omega)
      clear hL hS hrg hok hsp q1
      have HPW := hide hPw
      have HP := hide hP
      clear hPw hP
      go_wp2_with fail
      go_loopw [7] (fun iv wr => ∃ j : Nat, j ≤ xs.length ∧ iv = .int .i64 (j : Int) ∧ wr = w3) (fun iv _ => xs.length - (intOf iv).toNat)
      case atStart => exact ⟨0, Nat.zero_le _, rfl, rfl⟩
      case round =>
        obtain ⟨j, hj, rfl, rfl⟩ := hrel
        by_cases hlt : j < xs.length
        · obtain ⟨b, off, hDD, hbl, hc1⟩ := HI3.out j xs[j] (List.getElem?_eq_getElem hlt)
          injection hDD with hDD
          injection hDD with e1 e2
          subst e1 e2
          rw [Nat.zero_add] at hc1
          have hle := HQ1.out _ (List.getElem_mem hlt)
          generalize xs[j] = x at *
          have hz : (0 : Int) ≤ j := by omega
          have hz2 : (j : Int) < xs.length := by omega
          go_wp2_with fail
          go_roundw
          case rel => exact ⟨j + 1, hlt, by go_num, trivial⟩
          case measure => simp [intOf]; omega
        · have hz2 : ¬ (j : Int) < xs.length := by omega
          go_wp2_with fail
          refine (implBurnLeast_any _ _ _ _ _ HI3.out hl' hcc).mono ?_
          rintro e w4 ⟨rfl, hB4⟩
          have hb4 := next hb3 hB4
          have HI4 := hide (HI3.out.below hB4)
          rw [HL.out]
          clear hB4
          have hpm := HP.out
          go_wp2_with fail
          refine (lawSumI_any _ _ _ _ HI4.out hl').mono ?_
          rintro e w5 ⟨rfl, rfl⟩
          rw [HSW.out, HS.out]
          clear hpm
          go_wp2_with fail
          go_ret
          exact ⟨rfl, hb4⟩
end Go.Proofs.YteloapholoechaaDoor
