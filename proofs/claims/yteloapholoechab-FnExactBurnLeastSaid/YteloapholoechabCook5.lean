/- BurnList: contracts of the program and of the reference model.
   Conditions: lists have at most 1048576 elements. -/
import Derived.Test.YteloapholoechabCook2
namespace Go.Proofs.Yteloapholoechab
open Go.RowKit Go.ChangeShapes Go.WideShapes Go.ChangeAt

def burnGo : List Int → List Int → List Int
  | _, [] => []
  | busy, s :: r => ((idxL (minL busy) busy : Nat) : Int) :: burnGo (busy.set (idxL (minL busy) busy) (busy.getD (idxL (minL busy) busy) 0 + s)) r
def burnListL (spans : List Int) (b : Int) : List Int := if burnFit spans b = true then burnGo (tab b.toNat (fun _ => 0)) spans else []

theorem burnGo_len : ∀ (spans busy : List Int), (burnGo busy spans).length = spans.length
  | [], _ => rfl
  | s :: r, busy => by rw [burnGo, List.length_cons, burnGo_len r, List.length_cons]
theorem burnListL_len (spans : List Int) (b : Int) : (burnListL spans b).length ≤ spans.length := by
  unfold burnListL
  split
  · rw [burnGo_len]; exact Nat.le_refl _
  · simp

/-- One round: the first of the least, and the row behind it. -/
structure BusyOk (n : Nat) (k : Nat) (bs : List Int) : Prop where
  len : bs.length = n
  rng : ∀ y ∈ bs, 0 ≤ y ∧ y ≤ 30 * (k : Int)
theorem BusyOk.start (n : Nat) : BusyOk n 0 (tab n (fun _ => 0)) := ⟨tab_len _ _, fun y hy => by
  unfold tab at hy
  obtain ⟨_, _, rfl⟩ := List.mem_map.1 hy
  omega⟩
theorem BusyOk.next {n k q : Nat} {bs : List Int} {v s : Int} (h : BusyOk n k bs) (hv : v ∈ bs) (h0 : 0 ≤ s) (h1 : s ≤ 30) : BusyOk n (k + 1) (bs.set q (v + s)) :=
  ⟨by rw [List.length_set]; exact h.len, fun y hy => by
    have hvr := h.rng v hv
    rcases List.mem_or_eq_of_mem_set hy with hy | rfl
    · have := h.rng y hy
      omega
    · omega⟩

end Go.Proofs.Yteloapholoechab
