/- Marking and asking helpers of the exact laws from any start: rows of numbers and of lots that the call owns.
   Conditions: the bounds in each statement. -/
import Derived.Test.YtmepnilnlpoodaaDoorLots
namespace Go.Proofs.YtmepnilnlpoodaaDoor
open Go.RowKit

def seqK (k0 : Int) (n : Nat) : List Int := (List.range n).map (fun (i : Nat) => k0 + (i : Int))
theorem seqK_len (k0 : Int) (n : Nat) : (seqK k0 n).length = n := by simp [seqK]
theorem seqK_at {k0 : Int} {n i : Nat} (h : i < n) : (seqK k0 n)[i]? = some (k0 + (i : Int)) := by simp [seqK, h]
theorem eq_seqK {k0 : Int} {ys : List Int} {n : Nat} (hn : ys.length = n) (h : ∀ i, i < n → ys[i]? = some (k0 + (i : Int))) : ys = seqK k0 n := by
  apply List.ext_getElem?
  intro i
  by_cases hi : i < n
  · rw [h i hi, seqK_at hi]
  · rw [List.getElem?_eq_none (by omega), List.getElem?_eq_none (by rw [seqK_len]; omega)]

theorem ownsRow_head {w : World} {lo : Nat} {e : TypeId} {size n c : Nat} {A : Option Addr} {xs : List Value} (h : w.ownsRow lo e size (.slice A n c) n xs) (h0 : 0 < n) : ∃ g, A = some ⟨g, 0, none⟩ := by
  rcases h.2 with ⟨hv, hz⟩ | ⟨g, cap, cur, hv, _⟩
  · omega
  · injection hv with hv
    exact ⟨g, hv⟩

set_option maxHeartbeats 400000 in
theorem markIntS_any (lo : Nat) (A : Option Addr) (c : Nat) (xs : List Int) (k0 : Int) (w : World) (h : IntSl w lo (.slice A xs.length c) xs) (hn : xs.length ≤ 1048576) (hk0 : 0 ≤ k0) (hk1 : k0 ≤ 10000000000000) :
    Calls Tryd.prog 45 #[.slice A xs.length c, .int .i64 k0] w fun e w' => e = .returned (.int .i64 (k0 + (xs.length : Int))) ∧ IntSl w' lo (.slice A xs.length c) (seqK k0 xs.length) ∧ w.grownBy w' (Value.slice A xs.length c).ownBlock := by
  rcases Nat.eq_zero_or_pos xs.length with h0 | h0
  · have hnil : xs = [] := List.eq_nil_of_length_eq_zero h0
    subst hnil
    have h' : IntSl w lo (.slice A 0 c) (seqK k0 0) := h
    simp only [List.length_nil] at *
    go_enter Tryd.func45, Tryd.ntmps45
    go_wp2_with fail
    go_loopw [1, 5] (fun kv i wr => kv = .int .i64 k0 ∧ i = .int .i64 0 ∧ wr = w) (fun _ _ _ => 0)
    case atStart => exact ⟨rfl, rfl, rfl⟩
    case round =>
      obtain ⟨rfl, rfl, rfl⟩ := hrel
      go_wp2_with fail
      go_ret
      exact ⟨by simp, h', World.grownBy.refl _ _⟩
  · obtain ⟨g, rfl⟩ := ownsRow_head h h0
    have h1 : w.ownsRow lo 3 1 (.slice (some ⟨g, 0, none⟩) xs.length c) xs.length (xs.map (Value.int .i64)) := h
    clear h
    go_enter Tryd.func45, Tryd.ntmps45
    go_wp2_with fail
    go_loopw [1, 5] (fun kv i wr => ∃ (k : Nat) (ys : List Int), k ≤ xs.length ∧ kv = .int .i64 (k0 + k) ∧ i = .int .i64 k ∧ Hid (ys.length = xs.length) ∧ Hid (∀ i, i < k → ys[i]? = some (k0 + (i : Int))) ∧ wr.ownsRow lo 3 1 (.slice (some ⟨g, 0, none⟩) xs.length c) xs.length (ys.map (Value.int .i64)) ∧ w.grownBy wr (some g)) (fun _ i _ => xs.length - (intOf i).toNat)
    case atStart => exact ⟨0, xs, by omega, by simp, rfl, hide rfl, hide (fun i hi => absurd hi (by omega)), h1, World.grownBy.refl _ _⟩
    case round =>
      obtain ⟨k, ys, hk, rfl, rfl, HL, HY, hO, hg⟩ := hrel
      by_cases hlt : k < xs.length
      · have hz : (0 : Int) ≤ k := by omega
        have hz2 : (k : Int) < xs.length := by omega
        have hc1 : wr.cell? ⟨g, k, none⟩ = some (.int .i64 (ys.getD k 0)) := by
          rw [World.ownsRow.cellAt hO k (by omega)]
          simp [show k < ys.length from by rw [HL.out]; exact hlt]
        have hf1 := World.ownsRow.frozenAt hO k
        have hst := hide (World.ownsRow.stored hO k (.int .i64 (k0 + (k : Int))))
        go_wp2_with fail
        go_roundw
        case rel =>
          refine ⟨k + 1, ys.set k (k0 + (k : Int)), hlt, by go_num, by go_num, hide (by rw [List.length_set]; exact HL.out), hide (fun i hi => ?_), ?_, hg.trans hst.out.2⟩
          · by_cases e : i = k
            · subst e
              exact List.getElem?_set_self (by rw [HL.out]; exact hlt)
            · rw [List.getElem?_set_ne (fun h => e h.symm)]
              exact HY.out i (by omega)
          · rw [List.map_set]
            exact hst.out.1
        case measure => simp [intOf]; omega
      · have HE : Hid (ys = seqK k0 xs.length) := hide (eq_seqK HL.out (fun i hi => HY.out i (by omega)))
        go_wp2_with fail
        go_ret
        refine ⟨?_, ?_, hg⟩
        · have : k = xs.length := by omega
          subst this
          rfl
        · rw [← HE.out]
          unfold IntSl
          rw [HL.out]
          exact hO

def seqLots (k0 : Int) (n : Nat) : List Lot := (List.range n).map (fun (i : Nat) => ⟨k0 + 2 * (i : Int), k0 + 2 * (i : Int) + 1⟩)
theorem seqLots_len (k0 : Int) (n : Nat) : (seqLots k0 n).length = n := by simp [seqLots]
theorem seqLots_at {k0 : Int} {n i : Nat} (h : i < n) : (seqLots k0 n)[i]? = some ⟨k0 + 2 * (i : Int), k0 + 2 * (i : Int) + 1⟩ := by simp [seqLots, h]
theorem eq_seqLots {k0 : Int} {ys : List Lot} {n : Nat} (hn : ys.length = n) (h : ∀ i, i < n → ys[i]? = some ⟨k0 + 2 * (i : Int), k0 + 2 * (i : Int) + 1⟩) : ys = seqLots k0 n := by
  apply List.ext_getElem?
  intro i
  by_cases hi : i < n
  · rw [h i hi, seqLots_at hi]
  · rw [List.getElem?_eq_none (by omega), List.getElem?_eq_none (by rw [seqLots_len]; omega)]

end Go.Proofs.YtmepnilnlpoodaaDoor
