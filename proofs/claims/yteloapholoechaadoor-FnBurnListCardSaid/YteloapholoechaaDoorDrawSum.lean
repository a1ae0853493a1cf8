/- Contract of the draw of a sum; and of the laws' own sum of a list.
   Conditions: the bounds in each statement. -/
import Derived.Test.YteloapholoechaaDoorDraw
import Derived.Test.YteloapholoechaaDoorSums
namespace Go.Proofs.YteloapholoechaaDoor
open Go.RowKit Go.ChangeShapes Go.WideShapes Go.ChangeAt

def DrewSum (w : World) (b n : Nat) (e : Ending) (w' : World) : Prop := ∃ s : Int, e = .returned (.int .i64 s) ∧ -20000 ≤ s ∧ s ≤ 20000 ∧ Rd w' b (n + 4) ∧ w.grownBy w' (some b)

theorem mul_rng {p q P Q : Int} (h0 : 0 ≤ p) (h1 : p ≤ P) (h2 : 0 ≤ q) (h3 : q ≤ Q) (hP : 0 ≤ P) : 0 ≤ p * q ∧ p * q ≤ P * Q :=
  ⟨Int.mul_nonneg h0 h2, Int.mul_le_mul h1 h3 h2 hP⟩
theorem tdiv_one {p d : Int} (h0 : 0 ≤ p) (h1 : p ≤ d) (hd : 0 < d) : ∃ t : Int, p.tdiv d = t ∧ 0 ≤ t ∧ t ≤ 1 := by
  refine ⟨_, rfl, ?_⟩
  rw [Int.tdiv_eq_ediv_of_nonneg h0]
  refine ⟨Int.ediv_nonneg h0 (by omega), ?_⟩
  have := Int.ediv_le_ediv hd h1
  rwa [Int.ediv_self (by omega)] at this

set_option maxHeartbeats 400000 in
theorem lawSumI_any (A : Option Addr) (c : Nat) (xs : List Int) (w : World) (hA : IntsAt w A xs) (hl : xs.length ≤ 1048576) :
    Calls Tryd.prog 31 #[.slice A xs.length c] w fun e w' => e = .returned (.int .i64 (sumW xs)) ∧ w = w' := by
  go_enter Tryd.func31, Tryd.ntmps31
  go_wp2_with fail
  go_loopw [3, 4] (fun sv i wr => ∃ (k : Nat) (s : Int), k ≤ xs.length ∧ i = .int .i64 k ∧ sv = .int .i64 s ∧ Hid (sumW xs = sumGo s (xs.drop k)) ∧ w = wr) (fun _ i _ => xs.length - (intOf i).toNat)
  case atStart => exact ⟨0, 0, Nat.zero_le _, rfl, rfl, hide rfl, rfl⟩
  case round =>
    obtain ⟨k, s, hk, rfl, rfl, HG, rfl⟩ := hrel
    by_cases hlt : k < xs.length
    · obtain ⟨b, off, rfl, hbl, hc1⟩ := hA k xs[k] (List.getElem?_eq_getElem hlt)
      have HD : Hid (xs.drop k = xs[k] :: xs.drop (k + 1)) := hide (List.drop_eq_getElem_cons hlt)
      generalize xs[k] = p at *
      have H3 : Hid (sumW xs = sumGo (wrap64 (s + p)) (xs.drop (k + 1))) := hide (by rw [HG.out, HD.out, sumGo])
      have hz : (0 : Int) ≤ k := by omega
      have hz2 : (k : Int) < xs.length := by omega
      go_wp2_with fail
      go_roundw
      case rel => exact ⟨k + 1, _, hlt, by go_num, rfl, H3, trivial⟩
      case measure => simp [intOf]; omega
    · have H3 : Hid (sumW xs = s) := hide (by rw [HG.out, List.drop_of_length_le (by omega), sumGo])
      go_wp2_with fail
      go_ret
      exact ⟨by rw [H3.out]; rfl, rfl⟩
end Go.Proofs.YteloapholoechaaDoor
