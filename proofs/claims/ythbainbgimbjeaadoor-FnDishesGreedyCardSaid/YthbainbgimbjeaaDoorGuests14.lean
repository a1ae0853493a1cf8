/- Guests14: contracts of SeatsLeast of the program.
   Conditions: lists have at most 1048576 elements. -/
import Derived.Test.YthbainbgimbjeaaDoorGuests12
namespace Go.Proofs.YthbainbgimbjeaaDoor
open Go.RowKit Go.ChangeShapes Go.WideShapes Go.ChangeAt Go.Deep

theorem tblI_getD_lt (q : List Int) {a b : Nat} (h : b < a) : (tblI q (a + 1)).getD b 0 = (tblI q a).getD b 0 := by
  rw [tblI, List.getD_eq_getElem?_getD, List.getElem?_append_left (by rw [tblI_len]; exact h), ← List.getD_eq_getElem?_getD]
theorem tblI_getD_eq (q : List Int) (a : Nat) : (tblI q (a + 1)).getD a 0 = cellI q (tblI q a) a := by
  rw [tblI, List.getD_eq_getElem?_getD, List.getElem?_append_right (by rw [tblI_len]; exact Nat.le_refl _), tblI_len]
  simp

theorem getD_high {T : List Int} (hT : ∀ x ∈ T, 0 ≤ x ∧ x ≤ 64) (i : Nat) : T.getD i 0 ≤ 64 := by
  by_cases e : i < T.length
  · rw [show T.getD i 0 = T[i] from by simp [e]]
    exact (hT _ (List.getElem_mem e)).2
  · rw [show T.getD i 0 = 0 from by simp [e]]
    omega
def rowAt (q : List Int) (N k : Nat) : List Int := tab N (fun j => if j < k then (tblI q k).getD j 0 else 0)
def rowIn (q : List Int) (N k : Nat) (v : Int) : List Int := tab N (fun j => if j = k then v else if j < k then (tblI q k).getD j 0 else 0)

theorem rowAt_zero (q : List Int) (N : Nat) : rowAt q N 0 = tab N (fun _ => 0) := by unfold rowAt; exact tab_congr (fun j _ => by simp)
theorem rowAt_set (q : List Int) (N k : Nat) (v : Int) : (rowAt q N k).set k v = rowIn q N k v := by
  unfold rowAt rowIn
  rw [tab_set]
theorem rowIn_set (q : List Int) (N k : Nat) (v v' : Int) : (rowIn q N k v).set k v' = rowIn q N k v' := by
  unfold rowIn
  rw [tab_set]
  exact tab_congr (fun j _ => by by_cases e : j = k <;> simp [e])
theorem rowIn_done {q : List Int} {N k : Nat} {v : Int} (h : cellI q (tblI q k) k = v) : rowIn q N k v = rowAt q N (k + 1) := by
  unfold rowIn rowAt
  exact tab_congr (fun j _ => by
    by_cases e : j = k
    · subst e; rw [if_pos rfl, if_pos (by omega), tblI_getD_eq, h]
    · rw [if_neg e]
      by_cases e2 : j < k
      · rw [if_pos e2, if_pos (by omega), tblI_getD_lt q e2]
      · rw [if_neg e2, if_neg (by omega)])
theorem rowAt_len (q : List Int) (N k : Nat) : (rowAt q N k).length = N := tab_len _ _
theorem rowIn_len (q : List Int) (N k : Nat) (v : Int) : (rowIn q N k v).length = N := tab_len _ _
theorem rowIn_self {q : List Int} {N k : Nat} {v : Int} (h : k < N) : (rowIn q N k v)[k]? = some v := by
  unfold rowIn; rw [tab_at h, if_pos rfl]
theorem rowIn_low {q : List Int} {N k r : Nat} {v : Int} (h : r < k) (hk : k < N) : (rowIn q N k v)[r]? = some ((tblI q k).getD r 0) := by
  unfold rowIn; rw [tab_at (by omega), if_neg (by omega), if_pos h]
theorem rowAt_self {q : List Int} {N k : Nat} (h : k < N) : (rowAt q N k)[k]? = some 0 := by
  unfold rowAt; rw [tab_at h, if_neg (by omega)]
theorem tab_self' {L : List Int} {n : Nat} (h : L.length = n) : tab n (fun j => L.getD j 0) = L := by
  apply List.ext_getElem?
  intro i
  by_cases hi : i < n
  · rw [tab_at hi]
    simp [h, hi]
  · rw [List.getElem?_eq_none (by rw [tab_len]; omega), List.getElem?_eq_none (by omega)]
theorem rowAt_all (q : List Int) (N : Nat) : rowAt q N N = tblI q N := by
  rw [← tab_self' (tblI_len q N)]
  unfold rowAt
  exact tab_congr (fun j hj => by rw [if_pos hj])

end Go.Proofs.YthbainbgimbjeaaDoor
