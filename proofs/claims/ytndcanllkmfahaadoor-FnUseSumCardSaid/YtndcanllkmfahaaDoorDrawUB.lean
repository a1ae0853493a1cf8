/- Contract of the draw of lots, wants and a day; and of the laws' sum of numbers.
   Conditions: the bounds in each statement. -/
import Derived.Test.YtndcanllkmfahaaDoorDrawBoth
import Derived.Test.YtndcanllkmfahaaDoorSums
namespace Go.Proofs.YtndcanllkmfahaaDoor
open Go.RowKit

set_option maxHeartbeats 400000 in
theorem lawSum_any (A : Option Addr) (c : Nat) (xs : List Int) (w : World) (hA : IntsAt w A xs) (hl : xs.length ≤ 1048576) :
    Calls Tryd.prog 15 #[.slice A xs.length c] w fun e w' => e = .returned (.int .i64 (sumW xs)) ∧ w = w' := by
  go_enter Tryd.func15, Tryd.ntmps15
  go_wp2_with fail
  go_loopw [3, 4] (fun sv i wr => ∃ (k : Nat) (s : Int), k ≤ xs.length ∧ i = .int .i64 k ∧ sv = .int .i64 s ∧ Hid (sumW xs = sumGo s (xs.drop k)) ∧ w = wr) (fun _ i _ => xs.length - (intOf i).toNat)
  case atStart => exact ⟨0, 0, Nat.zero_le _, rfl, rfl, hide rfl, rfl⟩
  case round =>
    obtain ⟨k, s, hk, rfl, rfl, HG, rfl⟩ := hrel
    by_cases hlt : k < xs.length
    · obtain ⟨b, off, rfl, hbl, hc1⟩ := hA k xs[k] (List.getElem?_eq_getElem hlt)
      have HD : Hid (xs.drop k = xs[k] :: xs.drop (k + 1)) := hide (List.drop_eq_getElem_cons hlt)
      generalize xs[k] = p at *
      have H3 : Hid (sumW xs = sumGo (wrap64 (s + p)) (xs.drop (k + 1))) := hide (by rw [HG.out, HD.out, sumGo])
      have hz : (0 : Int) ≤ k := by omega
      have hz2 : (k : Int) < xs.length := by omega
      go_wp2_with fail
      go_roundw
      case rel => exact ⟨k + 1, _, hlt, by go_num, rfl, H3, trivial⟩
      case measure => simp [intOf]; omega
    · have H3 : Hid (sumW xs = s) := hide (by rw [HG.out, List.drop_of_length_le (by omega), sumGo])
      go_wp2_with fail
      go_ret
      exact ⟨by rw [H3.out]; rfl, rfl⟩

def DrewLWD (w : World) (e : Ending) (w' : World) : Prop := ∃ (ls : List Lot) (g c : Nat) (xs : List Int) (h d : Nat) (day : Int), e = .returned (.tuple #[.slice (some ⟨g, 0, none⟩) ls.length c, .slice (some ⟨h, 0, none⟩) xs.length d, .int .i64 day]) ∧
  LotSl w' w.heap.size (.slice (some ⟨g, 0, none⟩) ls.length c) ls ∧ IntSl w' w.heap.size (.slice (some ⟨h, 0, none⟩) xs.length d) xs ∧ ls.length ≤ 6 ∧ xs.length ≤ 7 ∧ -1 ≤ day ∧ day ≤ 7 ∧ Below w.heap.size w w'

end Go.Proofs.YtndcanllkmfahaaDoor
