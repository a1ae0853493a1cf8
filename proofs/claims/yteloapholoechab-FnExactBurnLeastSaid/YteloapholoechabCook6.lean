/- BurnList of the reference model.
   Conditions: lists have at most 1048576 elements. -/
import Derived.Test.YteloapholoechabCook5
import Derived.Test.YteloapholoechabPush
namespace Go.Proofs.Yteloapholoechab
open Go.RowKit Go.ChangeShapes Go.WideShapes Go.ChangeAt

def FstMin (bs : List Int) (m q : Nat) : Prop := q < m ∧ (∀ i, i < m → bs.getD q 0 ≤ bs.getD i 0) ∧ ∀ i, i < q → bs.getD q 0 < bs.getD i 0
theorem FstMin.start (bs : List Int) : FstMin bs 1 0 := ⟨by omega, fun i hi => by obtain rfl : i = 0 := (by omega); exact Int.le_refl _, fun i hi => absurd hi (by omega)⟩
theorem FstMin.keep {bs : List Int} {m q : Nat} (h : FstMin bs m q) (hx : bs.getD q 0 ≤ bs.getD m 0) : FstMin bs (m + 1) q :=
  ⟨by have := h.1; omega, fun i hi => by
    rcases Nat.lt_or_ge i m with e | e
    · exact h.2.1 i e
    · obtain rfl : i = m := by omega
      exact hx, h.2.2⟩
theorem FstMin.take {bs : List Int} {m q : Nat} (h : FstMin bs m q) (hx : bs.getD m 0 < bs.getD q 0) : FstMin bs (m + 1) m :=
  ⟨by omega, fun i hi => by
    rcases Nat.lt_or_ge i m with e | e
    · have := h.2.1 i e; omega
    · obtain rfl : i = m := by omega
      exact Int.le_refl _, fun i hi => by have := h.2.1 i hi; omega⟩
theorem FstMin.done {bs : List Int} {q : Nat} (h : FstMin bs bs.length q) : idxL (minL bs) bs = q ∧ bs[q]? = some (minL bs) := by
  have hq := h.1
  have hgd : ∀ i (hi : i < bs.length), bs.getD i 0 = bs[i] := fun i hi => by simp [hi]
  have hm := minL_mem (xs := bs) (by omega)
  have he : bs.getD q 0 = minL bs := by
    have a := minL_le (xs := bs) (x := bs.getD q 0) (by rw [hgd q hq]; exact List.getElem_mem hq)
    obtain ⟨i, hi⟩ := List.getElem?_of_mem hm
    obtain ⟨hil, hie⟩ := List.getElem?_eq_some_iff.1 hi
    have b := h.2.1 i hil
    rw [hgd i hil, hie] at b
    omega
  refine ⟨idxL_eq hq he (fun i hi e => ?_), ?_⟩
  · have := h.2.2 i hi
    rw [he, e] at this
    omega
  · rw [List.getElem?_eq_getElem hq, ← hgd q hq, he]

end Go.Proofs.Yteloapholoechab
