/- Marking and asking helpers of the exact laws from any start: rows of numbers and of lots that the call owns.
   Conditions: the bounds in each statement. -/
import Derived.Test.YtgagfaajilbmmaaDoorLots
namespace Go.Proofs.YtgagfaajilbmmaaDoor
open Go.RowKit

def seqK (k0 : Int) (n : Nat) : List Int := (List.range n).map (fun (i : Nat) => k0 + (i : Int))
theorem seqK_len (k0 : Int) (n : Nat) : (seqK k0 n).length = n := by simp [seqK]
theorem seqK_at {k0 : Int} {n i : Nat} (h : i < n) : (seqK k0 n)[i]? = some (k0 + (i : Int)) := by simp [seqK, h]
theorem eq_seqK {k0 : Int} {ys : List Int} {n : Nat} (hn : ys.length = n) (h : ∀ i, i < n → ys[i]? = some (k0 + (i : Int))) : ys = seqK k0 n := by
  apply List.ext_getElem?
  intro i
  by_cases hi : i < n
  · rw [h i hi, seqK_at hi]
  · rw [List.getElem?_eq_none (by omega), List.getElem?_eq_none (by rw [seqK_len]; omega)]

theorem ownsRow_head {w : World} {lo : Nat} {e : TypeId} {size n c : Nat} {A : Option Addr} {xs : List Value} (h : w.ownsRow lo e size (.slice A n c) n xs) (h0 : 0 < n) : ∃ g, A = some ⟨g, 0, none⟩ := by
  rcases h.2 with ⟨hv, hz⟩ | ⟨g, cap, cur, hv, _⟩
  · omega
  · injection hv with hv
    exact ⟨g, hv⟩

def seqLots (k0 : Int) (n : Nat) : List Lot := (List.range n).map (fun (i : Nat) => ⟨k0 + 2 * (i : Int), k0 + 2 * (i : Int) + 1⟩)
theorem seqLots_len (k0 : Int) (n : Nat) : (seqLots k0 n).length = n := by simp [seqLots]
theorem seqLots_at {k0 : Int} {n i : Nat} (h : i < n) : (seqLots k0 n)[i]? = some ⟨k0 + 2 * (i : Int), k0 + 2 * (i : Int) + 1⟩ := by simp [seqLots, h]
theorem eq_seqLots {k0 : Int} {ys : List Lot} {n : Nat} (hn : ys.length = n) (h : ∀ i, i < n → ys[i]? = some ⟨k0 + 2 * (i : Int), k0 + 2 * (i : Int) + 1⟩) : ys = seqLots k0 n := by
  apply List.ext_getElem?
  intro i
  by_cases hi : i < n
  · rw [h i hi, seqLots_at hi]
  · rw [List.getElem?_eq_none (by omega), List.getElem?_eq_none (by rw [seqLots_len]; omega)]

end Go.Proofs.YtgagfaajilbmmaaDoor
