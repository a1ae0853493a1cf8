/- Contracts of the draws of an index, and of the arguments of UsesOf and MarksOf.
   Conditions: the bounds in each statement. -/
import Derived.Test.YtjegebnnlomcpaaDoorDraw3
namespace Go.Proofs.YtjegebnnlomcpaaDoor
open Go.RowKit

def DrewN (w : World) (b n : Nat) (lo hi : Int) (m : Nat) (e : Ending) (w' : World) : Prop := ∃ v : Int, e = .returned (.int .i64 v) ∧ lo ≤ v ∧ v ≤ hi ∧ Rd w' b (n + m) ∧ w.grownBy w' (some b)

set_option maxRecDepth 100000 in
set_option maxHeartbeats 1000000 in
theorem l20Index_any (b n m : Nat) (A : Option Addr) (c : Nat) (w : World) (hR : Rd w b n) (hn : n ≤ 90000) (hm : m ≤ 1000) :
    Calls Tryd.prog 13 #[.pointer (some ⟨b, 0, none⟩), .slice A m c] w (DrewN w b n (-9) 2000 3) := by
  go_enter Tryd.func13, Tryd.ntmps13
  go_wp2_with fail
  refine (pick_any b n (max (m : Int) 1) _ hR (by omega) (by omega)).mono ?_
  rintro e w1 ⟨v1, rfl, h10, h11, hR1, hg1⟩
  go_wp2_with fail
  refine (pick_any b _ 30 _ hR1 (by omega) (by omega)).mono ?_
  rintro e w2 ⟨v2, rfl, h20, h21, hR2, hg2⟩
  have hv1 : v1 ≤ 1000 := by omega
  have hv2 : v2 ≤ 29 := by omega
  have hq2 : 0 ≤ v2 / 29 ∧ v2 / 29 ≤ 1 := by omega
  obtain ⟨hq20, hq21⟩ := hq2
  go_wp2_with fail
  refine (pick_any b _ 30 _ hR2 (by omega) (by omega)).mono ?_
  rintro e w3 ⟨v3, rfl, h30, h31, hR3, hg3⟩
  have hv3 : v3 ≤ 29 := by omega
  have hq3 : 0 ≤ v3 / 29 ∧ v3 / 29 ≤ 1 := by omega
  obtain ⟨hq30, hq31⟩ := hq3
  go_wp2_with fail
  refine bodyPost_ret (results_tmp rfl _ _ _) rfl ⟨v1 + v2 / 29 * 8 - v3 / 29 * 9, rfl, by omega, by omega, hR3, (hg1.trans hg2).trans hg3⟩

def DrawIx (w : World) (e : Ending) (w' : World) : Prop := ∃ (l : List Item) (A : Option Addr) (c : Nat) (n : Int), e = .returned (.tuple #[.slice A l.length c, .int .i64 n]) ∧ ItemsAt w' A l ∧ l.length ≤ 7 ∧ (∀ x ∈ l, x.parts.length ≤ 5) ∧ -9 ≤ n ∧ n ≤ 2000 ∧ Below w.heap.size w w'

end Go.Proofs.YtjegebnnlomcpaaDoor
