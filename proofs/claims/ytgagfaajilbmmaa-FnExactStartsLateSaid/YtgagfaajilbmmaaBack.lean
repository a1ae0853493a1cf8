/- Back: slices.Backward over a row of pointers to steps: the contract of its iterator.
   Conditions: the row has at most 1048576 elements. -/
import Derived.RangeFuncNested
import Derived.RangeFuncBound
import Derived.RangeFuncCalls
import Derived.RangeFuncLeaves
import Derived.Shelf.Abstract
import Derived.Shelf.RegionOpen
import Derived.WalkKit
import Derived.OwnWalkIn
import Derived.TacticsInMore
import Derived.LoopNIn
import Derived.LoopIn
import Derived.Test.YtgagfaajilbmmaaInStill
import Derived.Test.YtgagfaajilbmmaaSteps3
namespace Go.Proofs.Ytgagfaajilbmmaa
open Go.RowKit Go.Shelf

attribute [local go_sem] Oper.semAt_some

/-- What the iterator reads between two rounds lies as it lay: its own box, and the row. -/
def KpAt (B b : Nat) (W W' : World) : Prop := ∀ k o : Nat, (k = B ∨ k = b) → W'.cell? ⟨k, o, none⟩ = W.cell? ⟨k, o, none⟩
theorem KpAt.trans {B b : Nat} {W1 W2 W3 : World} (h1 : KpAt B b W1 W2) (h2 : KpAt B b W2 W3) : KpAt B b W1 W3 := fun k o h => (h2 k o h).trans (h1 k o h)
theorem KpAt.refl (B b : Nat) (W : World) : KpAt B b W W := fun _ _ _ => rfl
/-- From the last one down to j. -/
def downs (n j : Nat) : List Nat := (List.range (n - j)).map (fun t => n - 1 - t)
theorem downs_nil (n : Nat) : downs n n = [] := by simp [downs]
theorem downs_succ {n j : Nat} (h : j < n) : downs n (j + 1) ++ [j] = downs n j := by
  unfold downs
  rw [show n - j = (n - (j + 1)) + 1 from by omega, List.range_succ, List.map_append]
  simp
  omega
theorem downs_len (n j : Nat) : (downs n j).length = n - j := by simp [downs]

set_option maxRecDepth 100000 in
set_option maxHeartbeats 2000000 in
theorem back1_in (F : Fence) (n : Nat) (hF : F.fn 79) (hro : F.round = none) (hn : 1 ≤ n) (l Bs b len cap : Nat) (G : Nat → Nat) (hlen : len ≤ 1048576) (J Jx : List (Fin len) → World → Prop)
    (hY : ∀ (pre : List (Fin len)) (x : Fin len) W, J pre W → pre.length < len → YieldAt F (n - 1) Try.prog l #[.int .i64 ((x.val : Nat) : Int), .pointer (some ⟨G x.val, 0, none⟩)] W fun e W' =>
      (e = .returned (.bool true) ∧ J (pre ++ [x]) W' ∧ KpAt Bs b W W') ∨ (e = .returned (.bool false) ∧ Jx (pre ++ [x]) W'))
    (W : World) (hBs : W.cell? ⟨Bs, 0, none⟩ = some (.slice (some ⟨b, 0, none⟩) len cap)) (hc : ∀ j, j < len → W.cell? ⟨b, j, none⟩ = some (.pointer (some ⟨G j, 0, none⟩))) (h0 : J [] W) :
    CallsIn F n Try.prog 79 #[.func (.yield l) #[] #[], .pointer (some ⟨Bs, 0, none⟩)] W fun e W' => (∃ v, e = .returned v) ∧
      ((∃ ys, ys.map (·.val) = downs len 0 ∧ J ys W') ∨ (∃ pre, True ∧ Jx pre W')) := by
  refine callsIn_of_wp Try.func79 rfl hF ?_ hro
  simp only [Try.ntmps79, List.size_toArray, List.length_cons, List.length_nil, Nat.reduceAdd, Nat.reduceSub, Array.replicate_succ, Array.replicate_zero, List.push_toArray, List.append_toArray, List.nil_append, List.cons_append]
  gi_wp2
  gi_loopw [3] (fun i wr => ∃ j : Nat, j ≤ len ∧ i = .int .i64 ((j : Int) - 1) ∧ (∃ pre, pre.map (·.val) = downs len j ∧ J pre wr) ∧ KpAt Bs b W wr)
    (fun i _ => (intOf i + 1).toNat)
  case atStart => exact ⟨len, Nat.le_refl _, by first | rfl | simp, ⟨[], by rw [downs_nil]; rfl, h0⟩, KpAt.refl _ _ _⟩
  case round =>
    obtain ⟨j, hj, rfl, ⟨pre, hpre, hJs⟩, hK⟩ := hrel
    have hbx := (hK Bs 0 (.inl rfl)).trans hBs
    cases j with
    | zero =>
      gi_wp2
      go_end0
      exact ⟨⟨_, rfl⟩, .inl ⟨_, hpre, hJs⟩⟩
    | succ j =>
      have hcx := (hK b j (.inr rfl)).trans (hc j (by omega))
      obtain ⟨fn, tmps, assign, body, hy, hR⟩ := hY pre ⟨j, by omega⟩ wr hJs (by have := congrArg List.length hpre; rw [List.length_map, downs_len] at this; omega)
      dsimp only at hy
      have hji : ((j + 1 : Nat) : Int) - 1 = (j : Int) := by omega
      have hz : (0 : Int) ≤ j := by omega
      have hz2 : (j : Int) < len := by omega
      rw [hji]
      gi_wp2
      refine hR.mono ?_
      rintro e W3 (⟨rfl, hJ3, hk3⟩ | ⟨rfl, hJx3⟩)
      · gi_wp2
        go_roundw
        case rel => exact ⟨j, by omega, by first | rfl | simp, ⟨_, by rw [List.map_append, hpre, ← downs_succ (show j < len by omega)]; rfl, hJ3⟩, hK.trans hk3⟩
        case measure => simp [intOf]
      · gi_wp2
        refine bodyPost_ret (results_none rfl _ _ _) rfl ?_
        exact ⟨⟨_, rfl⟩, .inr ⟨_, trivial, hJx3⟩⟩

set_option maxHeartbeats 1000000 in
theorem backward_in (F : Fence) (n : Nat) (hF : F.fn 66) (hro : F.round = none) (a : Option Addr) (len cap : Nat) (w : World) :
    CallsIn F n Try.prog 66 #[.slice a len cap] w fun e w' => e = .returned (.func (.func 79) #[] #[.pointer (some ⟨w.heap.size, 0, none⟩)]) ∧ w' = w.alloc (.cells #[.slice a len cap] 71) := by
  refine callsIn_of_wp Try.func66 rfl hF ?_ hro
  simp only [Try.ntmps66, List.size_toArray, List.length_cons, List.length_nil, Nat.reduceAdd, Nat.reduceSub, Array.replicate_succ, Array.replicate_zero, List.push_toArray, List.append_toArray, List.nil_append, List.cons_append]
  gi_wp2
  go_ret
  exact ⟨rfl, rfl⟩

theorem backward_stops (F : Fence) (n : Nat) (hF : F.fn 79) (hro : F.round = none) (hn : 1 ≤ n) (Bs b len cap : Nat) (G : Nat → Nat) (hlen : len ≤ 1048576) (w : World) (hB : Bs < w.heap.size) (hb : b < w.heap.size)
    (hBs : w.cell? ⟨Bs, 0, none⟩ = some (.slice (some ⟨b, 0, none⟩) len cap)) (hc : ∀ j, j < len → w.cell? ⟨b, j, none⟩ = some (.pointer (some ⟨G j, 0, none⟩))) :
    SeqStopsK F n Try.prog 79 #[.pointer (some ⟨Bs, 0, none⟩)] (fun x : Fin len => #[Value.int .i64 ((x.val : Nat) : Int), .pointer (some ⟨G x.val, 0, none⟩)]) (KpAt Bs b) (fun ys => ys.map (·.val) = downs len 0) (fun _ => True) len w := fun l J Jx W hW _ _ hY h0 =>
  back1_in F n hF hro hn l Bs b len cap G hlen J Jx hY W ((hW.cell (p := ⟨Bs, 0, none⟩) hB).trans hBs) (fun j hj => (hW.cell (p := ⟨b, j, none⟩) hb).trans (hc j hj)) h0
end Go.Proofs.Ytgagfaajilbmmaa
