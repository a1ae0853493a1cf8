/- Guests5: contracts of ApartValid, of the program and of the reference model.
   Conditions: lists have at most 1048576 elements. -/
import Derived.Test.YtbkelmolhgofpacGuests4
namespace Go.Proofs.Ytbkelmolhgofpac
open Go.RowKit Go.ChangeShapes Go.WideShapes Go.ChangeAt Go.Deep

theorem sharersL_len (g : Int) (m : List Int) : (sharersL g m).length = g.toNat := by unfold sharersL; exact tab_len _ _
theorem sharersL_mem {g : Int} {m : List Int} (hg : g ≤ 6) (hm : ∀ x ∈ m, 0 ≤ x ∧ x < 64) {x : Int} (hx : x ∈ sharersL g m) : 0 ≤ x ∧ x < 64 := by
  obtain ⟨i, hi⟩ := List.getElem?_of_mem hx
  have hil := (List.getElem?_eq_some_iff.1 hi).1
  rw [sharersL_len] at hil
  unfold sharersL at hi
  rw [tab_at hil] at hi
  injection hi with hi
  rw [← hi]
  exact shGo_range (by omega) m 0 hm (by omega) (by omega)

theorem ap_no {g : Int} {m xs : List Int} (h : menuOk g m = false) : apartL g m xs = false := by unfold apartL; rw [h]; rfl

theorem IntsAt.cellOf {w : World} {b off : Nat} {xs : List Int} (h : IntsAt w (some ⟨b, off, none⟩) xs) {i : Nat} {x : Int} (hx : xs[i]? = some x) : w.cell? ⟨b, off + i, none⟩ = some (.int .i64 x) := by
  obtain ⟨b', off', e, _, h1⟩ := h i x hx
  injection e with e
  injection e with e1 e2
  subst e1 e2
  exact h1
theorem eatsBoth_cons (e : Int) (r : List Int) (x y : Nat) : eatsBoth (e :: r) x y = ((hasB e x && hasB e y) || eatsBoth r x y) := by unfold eatsBoth; rw [List.any_cons]
theorem eatsBoth_nil (x y : Nat) : eatsBoth [] x y = false := rfl
theorem row_range {g : Int} {m xs : List Int} {k : Nat} (h : rowApart g m xs k = true) : 0 ≤ xs.getD k 0 ∧ xs.getD k 0 ≤ g - 1 := by
  unfold rowApart at h
  simp only [Bool.and_eq_true] at h
  exact inR_iff.1 h.1.1

theorem apart_false {g : Int} {m xs : List Int} {k : Nat} (hk : k < xs.length) (h : rowApart g m xs k = false) : apartL g m xs = false := by
  unfold apartL
  rw [allN_false hk h]
  simp

end Go.Proofs.Ytbkelmolhgofpac
