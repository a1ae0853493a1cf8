/- Lots that a call owns: a store into one lot's number; copies.
   Conditions: none beyond each statement's own. -/
import Derived.Test.YtndcanllkmfahaaDoorDrawBoth
namespace Go.Proofs.YtndcanllkmfahaaDoor
open Go.RowKit Go.ChangeShapes Go.WideShapes Go.ChangeAt

theorem LotSl.store1 {w : World} {lo g n cap : Nat} {ls : List Lot} {x : Lot} (h : LotSl w lo (.slice (some ⟨g, 0, none⟩) n cap) ls) {i : Nat} (hx : ls[i]? = some x) (a : Int) :
    LotSl (w.setCell ⟨g, i * 2, none⟩ (.int .i64 a)) lo (.slice (some ⟨g, 0, none⟩) n cap) (ls.set i ⟨a, x.last⟩) ∧ w.grownBy (w.setCell ⟨g, i * 2, none⟩ (.int .i64 a)) (some g) := by
  obtain ⟨hi, hxe⟩ := List.getElem?_eq_some_iff.1 hx
  obtain ⟨A, c, e, _⟩ := h.form
  injection e with e1 e2 e3
  subst e2
  have hs := World.ownsRow.stored h (i * 2) (.int .i64 a)
  refine ⟨?_, hs.2⟩
  unfold LotSl
  rw [← lotCells_set a x.last ls i hi, List.length_set]
  have hc := (lotCells_at hx).2
  have : ((lotCells ls).set (i * 2) (.int .i64 a)).set (i * 2 + 1) (.int .i64 x.last) = (lotCells ls).set (i * 2) (.int .i64 a) := by
    apply List.ext_getElem?
    intro j
    rw [List.getElem?_set]
    by_cases hj : i * 2 + 1 = j
    · subst hj
      have hlt : i * 2 + 1 < (lotCells ls).length := by rw [lotCells_len]; omega
      rw [if_pos rfl, if_pos (by rw [List.length_set]; exact hlt), List.getElem?_set_ne (by omega), hc]
    · rw [if_neg hj]
  rw [this]
  exact hs.1
theorem LotSl.frozenAt {w : World} {lo g n cap : Nat} {ls : List Lot} (h : LotSl w lo (.slice (some ⟨g, 0, none⟩) n cap) ls) (j : Nat) : w.frozen? ⟨g, j, none⟩ = false := by
  rcases h.2 with ⟨hv, _⟩ | ⟨g', cap', cur, hv, _, hb, _⟩
  · cases hv
  · injection hv with e1
    injection e1 with e1
    injection e1 with e1
    subst e1
    simp [World.frozen?, hb]
theorem below_ownL {w wr : World} {o : Obj} (hg : (w.alloc o).grownBy wr (some w.heap.size)) : Below w.heap.size w wr :=
  (Below.alloc (Below.refl _ _) (Nat.le_refl _) _).grown hg (by simp) (fun j hj => by injection hj with hj; omega)

end Go.Proofs.YtndcanllkmfahaaDoor
