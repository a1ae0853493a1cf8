/- Orders turned round, and what waits least: the mathematics.
   Conditions: none beyond each statement's own. -/
import Derived.Test.YteloapholoechabCook4
import Derived.Test.YteloapholoechabSortG
namespace Go.Proofs.Yteloapholoechab
open Go.RowKit

theorem range_all {m : Int} {xs : List Int} : rangeOk m xs = true ↔ ∀ x ∈ xs, 0 ≤ x ∧ x ≤ m := by
  unfold rangeOk
  rw [List.all_eq_true]
  exact ⟨fun h x hx => inR_iff.1 (h x hx), fun h x hx => inR_iff.2 (h x hx)⟩
theorem freshGo_of : ∀ {xs seen : List Int}, (seen ++ xs).Nodup → freshGo seen xs = true
  | [], _, _ => rfl
  | x :: r, seen, h => by
    have h1 : x ∉ seen := fun hx => (List.nodup_append.1 h).2.2 x hx x (by simp) rfl
    have h2 : ((seen ++ [x]) ++ r).Nodup := by simpa using h
    unfold freshGo
    rw [hasI_false.2 h1, freshGo_of h2]
    rfl
theorem orderOkL_iff {ord : List Int} {many : Int} : orderOkL ord many = true ↔ (ord.length : Int) = many ∧ (∀ x ∈ ord, 0 ≤ x ∧ x < many) ∧ ord.Nodup := by
  unfold orderOkL
  simp only [Bool.and_eq_true, decide_eq_true_eq, range_all]
  constructor
  · rintro ⟨⟨h1, h2⟩, h3⟩
    exact ⟨h1, fun x hx => by have := h2 x hx; omega, by simpa using freshGo_nodup (seen := []) (by simp) h3⟩
  · rintro ⟨h1, h2, h3⟩
    exact ⟨⟨h1, fun x hx => by have := h2 x hx; omega⟩, freshGo_of (by simpa using h3)⟩
theorem orderOkL_rev (ord : List Int) (many : Int) : orderOkL ord.reverse many = orderOkL ord many := by
  rw [Bool.eq_iff_iff, orderOkL_iff, orderOkL_iff, List.length_reverse, (List.reverse_perm ord).nodup_iff]
  simp only [List.mem_reverse]
theorem orderOkL_again {ord : List Int} {x many : Int} (hx : x ∈ ord) : orderOkL (ord ++ [x]) many = false := by
  cases h : orderOkL (ord ++ [x]) many with
  | false => rfl
  | true =>
    have := (orderOkL_iff.1 h).2.2
    exact ((List.nodup_append.1 this).2.2 x hx x (by simp) rfl).elim
theorem order_mem {ord : List Int} {n : Nat} (hl : ord.length = n) (hr : ∀ x ∈ ord, 0 ≤ x ∧ x < (n : Int)) (hd : ord.Nodup) {x : Int} (h0 : 0 ≤ x) (h1 : x < n) : x ∈ ord := by
  refine Classical.byContradiction fun hx => ?_
  have := nodup_len n (x :: ord) (List.nodup_cons.2 ⟨hx, hd⟩) (fun y hy => by
    rcases List.mem_cons.1 hy with rfl | hy
    · exact ⟨h0, h1⟩
    · exact hr y hy)
  rw [List.length_cons] at this
  omega
theorem gfL_nodup' (xs : List Int) : (gfL xs).Nodup := (sortBy_sorted (negKey xs) xs.length).imp (fun hab e => by subst e; exact lexLt_irrefl hab)
theorem gfL_ok (xs : List Int) : orderOkL (gfL xs) (xs.length : Int) = true :=
  orderOkL_iff.2 ⟨by rw [gfL_len], fun x hx => gfL_mem.1 hx, gfL_nodup' xs⟩
theorem gfL_desc (xs : List Int) : (valsOf xs (gfL xs)).Pairwise (fun a b => b ≤ a) := by
  unfold valsOf
  rw [List.pairwise_map]
  refine (sortBy_sorted (negKey xs) xs.length).imp (fun {a b} hab => ?_)
  unfold lexLt negKey at hab
  omega
theorem order_perm {xs ord : List Int} (h : orderOkL ord (xs.length : Int) = true) : (valsOf xs ord).Perm (valsOf xs (gfL xs)) := by
  obtain ⟨h1, h2, h3⟩ := orderOkL_iff.1 h
  unfold valsOf
  refine List.Perm.map _ ((List.perm_ext_iff_of_nodup h3 (gfL_nodup' xs)).2 fun x => ?_)
  rw [gfL_mem]
  exact ⟨fun hx => h2 x hx, fun hx => order_mem (by omega) h2 h3 hx.1 hx.2⟩

theorem kGo_app : ∀ (a b : List Int) (k : Int), kGo k (a ++ b) = kGo k a + kGo (k + a.length) b
  | [], b, k => by simp [kGo]
  | x :: r, b, k => by
    simp only [List.cons_append, kGo, kGo_app r b (k + 1), List.length_cons, Int.natCast_add, Int.natCast_one]
    rw [show k + 1 + (r.length : Int) = k + ((r.length : Int) + 1) from by omega]
    omega
theorem sumL_rev : ∀ vs : List Int, sumL vs.reverse = sumL vs
  | [] => rfl
  | v :: r => by
    rw [List.reverse_cons, sumL_app, sumL_rev r]
    simp only [sumL]
    omega
theorem kGo_both : ∀ vs : List Int, kGo 0 vs + kGo 0 vs.reverse = sumL vs * ((vs.length : Int) - 1)
  | [] => by simp [kGo, sumL]
  | v :: r => by
    have ih := kGo_both r
    have e := kGo_succ r 0
    rw [List.reverse_cons, kGo_app]
    simp only [kGo, sumL, List.length_reverse, List.length_cons, Int.natCast_add, Int.natCast_one, Int.zero_mul, Int.zero_add, Int.add_zero] at *
    rw [show (r.length : Int) + 1 - 1 = r.length from by omega, Int.add_mul, e, Int.mul_comm v]
    rw [Int.mul_sub, Int.mul_one] at ih
    omega
theorem sumL_ge_mul {v : Int} : ∀ {a : List Int}, (∀ x ∈ a, v ≤ x) → (a.length : Int) * v ≤ sumL a
  | [], _ => by simp [sumL]
  | x :: r, h => by
    have ih := sumL_ge_mul (v := v) (a := r) (fun y hy => h y (by simp [hy]))
    have hx := h x (by simp)
    simp only [sumL, List.length_cons, Int.natCast_add, Int.natCast_one, Int.add_mul, Int.one_mul]
    omega
theorem sumL_perm {l d : List Int} (h : l.Perm d) : sumL l = sumL d := by
  induction h with
  | nil => rfl
  | cons x _ ih => simp only [sumL, ih]
  | swap x y l => simp only [sumL]; omega
  | trans _ _ ih1 ih2 => rw [ih1, ih2]
/-- What is sorted downwards waits least. -/
theorem kGo_least : ∀ (l d : List Int), l.Perm d → d.Pairwise (fun a b => b ≤ a) → kGo 0 d ≤ kGo 0 l
  | [], d, h, _ => by
    have := h.nil_eq
    subst this
    exact Int.le_refl _
  | v :: r, d, h, hs => by
    have hv : v ∈ d := h.subset (by simp)
    obtain ⟨a, b, rfl⟩ := List.append_of_mem hv
    have hp : r.Perm (a ++ b) := (List.perm_cons v).1 (h.trans List.perm_middle)
    have hsub : (a ++ b).Sublist (a ++ v :: b) := List.Sublist.append_left (List.sublist_cons_self v b) a
    have ih := kGo_least r (a ++ b) hp (hs.sublist hsub)
    have hav : ∀ x ∈ a, v ≤ x := fun x hx => (List.pairwise_append.1 hs).2.2 x hx v (by simp)
    have hge := sumL_ge_mul hav
    have e1 := kGo_succ r 0
    have e2 := kGo_succ b (a.length : Int)
    have e3 := sumL_perm hp
    rw [sumL_app] at e3
    rw [kGo_app] at ih ⊢
    simp only [kGo, Int.zero_add, Int.zero_mul] at *
    omega
theorem valsOf_rev (xs ord : List Int) : valsOf xs ord.reverse = (valsOf xs ord).reverse := by unfold valsOf; rw [List.map_reverse]
theorem kGo_nonneg : ∀ {vs : List Int} {k : Int}, (∀ x ∈ vs, 0 ≤ x) → 0 ≤ k → 0 ≤ kGo k vs
  | [], _, _, _ => by simp [kGo]
  | v :: r, k, h, hk => by
    have ih := kGo_nonneg (vs := r) (k := k + 1) (fun y hy => h y (by simp [hy])) (by omega)
    have := Int.mul_nonneg hk (h v (by simp))
    simp only [kGo]
    omega
end Go.Proofs.Yteloapholoechab
