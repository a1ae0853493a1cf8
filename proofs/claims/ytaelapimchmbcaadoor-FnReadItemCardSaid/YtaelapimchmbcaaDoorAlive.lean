/- Contract of alive: it answers true. And of the reader of drawn bytes: pick and odd.
   Conditions: the bounds in each statement. -/
import Derived.Test.YtaelapimchmbcaaDoorText
namespace Go.Proofs.YtaelapimchmbcaaDoor
open Go.RowKit

theorem dec_small (n : Nat) (h : n < 10) : decD n = [UInt8.ofNat (48 + n)] := by
  unfold decD
  rw [Int.toNat_natCast]
  unfold Lib.decDigits
  rw [dif_pos h]

def aliveItem : Item := ⟨4, [⟨0, 2⟩], 3⟩
theorem aliveText : itemTextL aliveItem = [52, 61, 48, 42, 50, 33, 51] := by
  have h0 := dec_small 0 (by omega)
  have h2 := dec_small 2 (by omega)
  have h3 := dec_small 3 (by omega)
  have h4 := dec_small 4 (by omega)
  unfold itemTextL
  rw [if_pos (by decide)]
  simp only [aliveItem, List.map_cons, List.map_nil, Lib.join_one, partText]
  rw [show decD 4 = _ from h4, show decD 0 = _ from h0, show decD 2 = _ from h2, show decD 3 = _ from h3]
  rfl

def emptyItem : Item := ⟨-1, [], 0⟩
theorem emptyText : itemTextL emptyItem = [] := by
  unfold itemTextL
  rw [if_neg (by decide)]

set_option maxRecDepth 100000 in
set_option maxHeartbeats 1000000 in
theorem alive_any (w : World) : Calls Tryd.prog 10 #[] w fun e w' => e = .returned (.bool true) ∧ Below w.heap.size w w' := by
  have hp : PartsAt (w.alloc (.cells #[.int .i64 0, .int .i64 2] 48)) (some ⟨w.heap.size, 0, none⟩) aliveItem.parts := by
    intro i p hi
    rcases i with _ | i
    · obtain rfl : (⟨0, 2⟩ : Part) = p := by simpa [aliveItem] using hi
      exact ⟨_, _, rfl, by simp, by simp, by simp⟩
    · simp [aliveItem] at hi
  have HP := hide hp
  clear hp
  go_enter Tryd.func10, Tryd.ntmps10
  go_wp2_with fail
  refine (implItemText_any (some ⟨w.heap.size, 0, none⟩) 1 aliveItem _ HP.out (by decide)).mono ?_
  rintro e w1 ⟨rfl, hB⟩
  rw [aliveText]
  have hb : Below w.heap.size w w1 := Below.trans (by go_grown) (hB.mono (by simp))
  go_wp2_with fail
  refine (implItemText_any none 0 emptyItem _ (fun i p h => by simp [emptyItem] at h) (by decide)).mono ?_
  rintro e w2 ⟨rfl, hB2⟩
  rw [emptyText]
  have hb2 := next hb hB2
  go_wp2_with fail
  go_ret
  exact ⟨rfl, hb2⟩
end Go.Proofs.YtaelapimchmbcaaDoor
