/- For all drawn bytes the law of SettleFast answers true, and its argument reads as it did.
   Conditions: none. -/
import Derived.Test.YtgagfaajilbmmaaDoorLawKit
import Derived.Test.YtgagfaajilbmmaaDoorDrawOwed
import Derived.Test.YtgagfaajilbmmaaDoorFast
import Derived.Test.YtgagfaajilbmmaaDoorFastMath
namespace Go.Proofs.YtgagfaajilbmmaaDoor
open Go.RowKit Go.ChangeShapes Go.WideShapes Go.ChangeAt

set_option maxHeartbeats 1000000 in
theorem samePays_same (A A' : Option Addr) (c c' : Nat) (ls : List Pay) (w : World) (h1 : PaysAt w A ls) (h2 : PaysAt w A' ls) (hl : ls.length ≤ 1048576) :
    Calls Tryd.prog 47 #[.slice A ls.length c, .slice A' ls.length c'] w fun e w' => e = .returned (.bool true) ∧ Below w.heap.size w w' := by
  have he : ((ls.length : Int) != ls.length) = false := by simp
  go_enter Tryd.func47, Tryd.ntmps47
  go_wp2_with fail
  go_loopw [5] (fun i wr => ∃ k : Nat, k ≤ ls.length ∧ i = .int .i64 k ∧ Below w.heap.size w wr) (fun i _ => ls.length - (intOf i).toNat)
  case atStart => exact ⟨0, Nat.zero_le _, rfl, Below.refl _ _⟩
  case round =>
    obtain ⟨k, hk, rfl, hb⟩ := hrel
    by_cases hlt : k < ls.length
    · obtain ⟨b, off, rfl, hbl, hc1, hc2, hc3⟩ := (h1.below hb) k ls[k] (List.getElem?_eq_getElem hlt)
      obtain ⟨b', off', rfl, hbl', hc1', hc2', hc3'⟩ := (h2.below hb) k ls[k] (List.getElem?_eq_getElem hlt)
      generalize ls[k] = p at *
      have hz : (0 : Int) ≤ k := by omega
      have hz2 : (k : Int) < ls.length := by omega
      go_wp2_with fail
      go_quiet (fail)
      go_wp2_with fail
      go_roundw
      case rel => exact ⟨k + 1, hlt, by go_num, below_drewN hb _⟩
      case measure => simp [intOf]; omega
    · have hz2 : ¬ (k : Int) < ls.length := by omega
      go_wp2_with fail
      go_ret
      exact ⟨rfl, by go_grown⟩

end Go.Proofs.YtgagfaajilbmmaaDoor
