/- Contract of the draw of a sum; and of the laws' own sum of a list.
   Conditions: the bounds in each statement. -/
import Derived.Test.YteocmjffjinphaaDoorDraw
import Derived.Test.YteocmjffjinphaaDoorSums
namespace Go.Proofs.YteocmjffjinphaaDoor
open Go.RowKit Go.ChangeShapes Go.WideShapes Go.ChangeAt

def DrewSum (w : World) (b n : Nat) (e : Ending) (w' : World) : Prop := ∃ s : Int, e = .returned (.int .i64 s) ∧ -20000 ≤ s ∧ s ≤ 20000 ∧ Rd w' b (n + 4) ∧ w.grownBy w' (some b)

theorem mul_rng {p q P Q : Int} (h0 : 0 ≤ p) (h1 : p ≤ P) (h2 : 0 ≤ q) (h3 : q ≤ Q) (hP : 0 ≤ P) : 0 ≤ p * q ∧ p * q ≤ P * Q :=
  ⟨Int.mul_nonneg h0 h2, Int.mul_le_mul h1 h3 h2 hP⟩
theorem tdiv_one {p d : Int} (h0 : 0 ≤ p) (h1 : p ≤ d) (hd : 0 < d) : ∃ t : Int, p.tdiv d = t ∧ 0 ≤ t ∧ t ≤ 1 := by
  refine ⟨_, rfl, ?_⟩
  rw [Int.tdiv_eq_ediv_of_nonneg h0]
  refine ⟨Int.ediv_nonneg h0 (by omega), ?_⟩
  have := Int.ediv_le_ediv hd h1
  rwa [Int.ediv_self (by omega)] at this

set_option maxRecDepth 100000 in
set_option maxHeartbeats 2000000 in
theorem l20Sum_any (b n : Nat) (w : World) (hR : Rd w b n) (hn : n ≤ 80000) :
    Calls Tryd.prog 76 #[.pointer (some ⟨b, 0, none⟩)] w (DrewSum w b n) := by
  go_enter Tryd.func76, Tryd.ntmps76
  go_wp2_with fail
  refine (pick_any b n 256 _ hR (by omega) (by omega)).mono ?_
  rintro e w1 ⟨p1, rfl, h10, h11, hR1, hg1⟩
  have HG1 := hide hg1
  have h12 : p1 ≤ 255 := by omega
  clear hg1 hR
  go_wp2_with fail
  refine (pick_any b _ 30 _ hR1 (by omega) (by omega)).mono ?_
  rintro e w2 ⟨p2, rfl, h20, h21, hR2, hg2⟩
  have HG2 := hide (HG1.out.trans hg2)
  have h22 : p2 ≤ 29 := by omega
  obtain ⟨q2, hq2⟩ : ∃ q2, 1 + p2 = q2 := ⟨_, rfl⟩
  have hwq : IntKind.i64.wrap (1 + p2) = q2 := (IntWalk.i64_in _ (by omega)).trans hq2
  obtain ⟨hm0, hm1⟩ := mul_rng (p := p1) (q := q2) (P := 255) (Q := 30) h10 h12 (by omega) (by omega) (by omega)
  obtain ⟨M, hM⟩ : ∃ M, p1 * q2 = M := ⟨_, rfl⟩
  have hwM : IntKind.i64.wrap (p1 * q2) = M := (IntWalk.i64_in _ (by omega)).trans hM
  rw [hM] at hm0 hm1
  clear hg2 hR1 HG1
  go_wp2_with fail
  refine (pick_any b _ 40 _ hR2 (by omega) (by omega)).mono ?_
  rintro e w3 ⟨p3, rfl, h30, h31, hR3, hg3⟩
  have HG3 := hide (HG2.out.trans hg3)
  obtain ⟨t3, ht3, ht30, ht31⟩ := tdiv_one (p := p3) (d := 39) h30 (by omega) (by omega)
  have h32 : p3 ≤ 39 := by omega
  clear hg3 hR2 HG2
  go_wp2_with fail
  refine (pick_any b _ 30 _ hR3 (by omega) (by omega)).mono ?_
  rintro e w4 ⟨p4, rfl, h40, h41, hR4, hg4⟩
  have HG4 := hide (HG3.out.trans hg4)
  obtain ⟨t4, ht4, ht40, ht41⟩ := tdiv_one (p := p4) (d := 29) h40 (by omega) (by omega)
  have h42 : p4 ≤ 29 := by omega
  have HR4 := hide (hR4.mono (by omega : n + 1 + 1 + 1 + 1 ≤ n + 4))
  clear hg4 hR3 HG3 hR4
  go_wp2_with fail
  refine bodyPost_ret (results_tmp rfl _ _ _) rfl ⟨M + t3 * 9000 - t4 * 9999, rfl, by omega, by omega, HR4.out, HG4.out⟩

set_option maxHeartbeats 400000 in
theorem lawSumI_any (A : Option Addr) (c : Nat) (xs : List Int) (w : World) (hA : IntsAt w A xs) (hl : xs.length ≤ 1048576) :
    Calls Tryd.prog 33 #[.slice A xs.length c] w fun e w' => e = .returned (.int .i64 (sumW xs)) ∧ w = w' := by
  go_enter Tryd.func33, Tryd.ntmps33
  go_wp2_with fail
  go_loopw [3, 4] (fun sv i wr => ∃ (k : Nat) (s : Int), k ≤ xs.length ∧ i = .int .i64 k ∧ sv = .int .i64 s ∧ Hid (sumW xs = sumGo s (xs.drop k)) ∧ w = wr) (fun _ i _ => xs.length - (intOf i).toNat)
  case atStart => exact ⟨0, 0, Nat.zero_le _, rfl, rfl, hide rfl, rfl⟩
  case round =>
    obtain ⟨k, s, hk, rfl, rfl, HG, rfl⟩ := hrel
    by_cases hlt : k < xs.length
    · obtain ⟨b, off, rfl, hbl, hc1⟩ := hA k xs[k] (List.getElem?_eq_getElem hlt)
      have HD : Hid (xs.drop k = xs[k] :: xs.drop (k + 1)) := hide (List.drop_eq_getElem_cons hlt)
      generalize xs[k] = p at *
      have H3 : Hid (sumW xs = sumGo (wrap64 (s + p)) (xs.drop (k + 1))) := hide (by rw [HG.out, HD.out, sumGo])
      have hz : (0 : Int) ≤ k := by omega
      have hz2 : (k : Int) < xs.length := by omega
      go_wp2_with fail
      go_roundw
      case rel => exact ⟨k + 1, _, hlt, by go_num, rfl, H3, trivial⟩
      case measure => simp [intOf]; omega
    · have H3 : Hid (sumW xs = s) := hide (by rw [HG.out, List.drop_of_length_le (by omega), sumGo])
      go_wp2_with fail
      go_ret
      exact ⟨by rw [H3.out]; rfl, rfl⟩
end Go.Proofs.YteocmjffjinphaaDoor
