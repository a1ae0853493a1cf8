/- Orders: each index once, nothing else; turned round; sums over them.
   Conditions: none beyond each statement's own. -/
import Derived.Test.YteloapholoechaaDoorOrders0
namespace Go.Proofs.YteloapholoechaaDoor
open Go.RowKit

theorem range_all {m : Int} {xs : List Int} : rangeOk m xs = true ↔ ∀ x ∈ xs, 0 ≤ x ∧ x ≤ m := by
  unfold rangeOk
  rw [List.all_eq_true]
  exact ⟨fun h x hx => inR_iff.1 (h x hx), fun h x hx => inR_iff.2 (h x hx)⟩
theorem freshGo_of : ∀ {xs seen : List Int}, (seen ++ xs).Nodup → freshGo seen xs = true
  | [], _, _ => rfl
  | x :: r, seen, h => by
    have h1 : x ∉ seen := fun hx => (List.nodup_append.1 h).2.2 x hx x (by simp) rfl
    have h2 : ((seen ++ [x]) ++ r).Nodup := by simpa using h
    unfold freshGo
    rw [hasI_false.2 h1, freshGo_of h2]
    rfl
theorem orderOkL_iff {ord : List Int} {many : Int} : orderOkL ord many = true ↔ (ord.length : Int) = many ∧ (∀ x ∈ ord, 0 ≤ x ∧ x < many) ∧ ord.Nodup := by
  unfold orderOkL
  simp only [Bool.and_eq_true, decide_eq_true_eq, range_all]
  constructor
  · rintro ⟨⟨h1, h2⟩, h3⟩
    exact ⟨h1, fun x hx => by have := h2 x hx; omega, by simpa using freshGo_nodup (seen := []) (by simp) h3⟩
  · rintro ⟨h1, h2, h3⟩
    exact ⟨⟨h1, fun x hx => by have := h2 x hx; omega⟩, freshGo_of (by simpa using h3)⟩
theorem orderOkL_rev (ord : List Int) (many : Int) : orderOkL ord.reverse many = orderOkL ord many := by
  rw [Bool.eq_iff_iff, orderOkL_iff, orderOkL_iff, List.length_reverse, (List.reverse_perm ord).nodup_iff]
  simp only [List.mem_reverse]
theorem orderOkL_again {ord : List Int} {x many : Int} (hx : x ∈ ord) : orderOkL (ord ++ [x]) many = false := by
  cases h : orderOkL (ord ++ [x]) many with
  | false => rfl
  | true =>
    have := (orderOkL_iff.1 h).2.2
    exact ((List.nodup_append.1 this).2.2 x hx x (by simp) rfl).elim
theorem order_mem {ord : List Int} {n : Nat} (hl : ord.length = n) (hr : ∀ x ∈ ord, 0 ≤ x ∧ x < (n : Int)) (hd : ord.Nodup) {x : Int} (h0 : 0 ≤ x) (h1 : x < n) : x ∈ ord := by
  refine Classical.byContradiction fun hx => ?_
  have := nodup_len n (x :: ord) (List.nodup_cons.2 ⟨hx, hd⟩) (fun y hy => by
    rcases List.mem_cons.1 hy with rfl | hy
    · exact ⟨h0, h1⟩
    · exact hr y hy)
  rw [List.length_cons] at this
  omega
theorem sumL_perm {l d : List Int} (h : l.Perm d) : sumL l = sumL d := by
  induction h with
  | nil => rfl
  | cons x _ ih => simp only [sumL, ih]
  | swap x y l => simp only [sumL]; omega
  | trans _ _ ih1 ih2 => rw [ih1, ih2]
end Go.Proofs.YteloapholoechaaDoor
