/- What the insertion by exchanges makes of the indices 0 to n-1: the list that is sorted by key, and by index where keys are equal; such a list is told by its elements.
   Conditions: none. -/
import Derived.Test.YteloapholoechabSortMath
import Derived.Test.YteloapholoechabTab
namespace Go.Proofs.Yteloapholoechab
open Go.RowKit

def lexLt (key : Int → Int) (a b : Int) : Prop := key a < key b ∨ (key a = key b ∧ a < b)
theorem lexLt_trans {key : Int → Int} {a b c : Int} (h : lexLt key a b) (k : lexLt key b c) : lexLt key a c := by
  unfold lexLt at *
  omega
theorem lexLt_irrefl {key : Int → Int} {a : Int} (h : lexLt key a a) : False := by
  unfold lexLt at h
  omega
theorem lexLt_asymm {key : Int → Int} {a b : Int} (h : lexLt key a b) (k : lexLt key b a) : False := lexLt_irrefl (lexLt_trans h k)
theorem lexLt_total {key : Int → Int} {a b : Int} (h : a ≠ b) : lexLt key a b ∨ lexLt key b a := by
  unfold lexLt
  omega

/-- A strictly sorted list is told by its elements. -/
theorem sorted_eq {key : Int → Int} : ∀ {l m : List Int}, l.Pairwise (lexLt key) → m.Pairwise (lexLt key) → (∀ x, x ∈ l ↔ x ∈ m) → l = m
  | [], [], _, _, _ => rfl
  | [], y :: m, _, _, h => absurd ((h y).2 (by simp)) (by simp)
  | x :: l, [], _, _, h => absurd ((h x).1 (by simp)) (by simp)
  | x :: l, y :: m, hl, hm, h => by
    rw [List.pairwise_cons] at hl hm
    have hxy : x = y := by
      rcases List.mem_cons.1 ((h x).1 (by simp)) with e | e
      · exact e
      · rcases List.mem_cons.1 ((h y).2 (by simp)) with e' | e'
        · exact e'.symm
        · exact absurd (lexLt_asymm (hm.1 x e) (hl.1 y e')) (by simp)
    subst hxy
    congr 1
    refine sorted_eq hl.2 hm.2 (fun z => ⟨fun hz => ?_, fun hz => ?_⟩)
    · rcases List.mem_cons.1 ((h z).1 (by simp [hz])) with e | e
      · subst e
        exact absurd (hl.1 z hz) (fun hh => lexLt_irrefl hh)
      · exact e
    · rcases List.mem_cons.1 ((h z).2 (by simp [hz])) with e | e
      · subst e
        exact absurd (hm.1 z hz) (fun hh => lexLt_irrefl hh)
      · exact e

def insRev (key : Int → Int) (x : Int) : List Int → List Int
  | [] => [x]
  | y :: r => if key x < key y then y :: insRev key x r else x :: y :: r

theorem swapAt_app (p : List Int) (y x : Int) (t : List Int) : swapAt (p ++ y :: x :: t) p.length = p ++ x :: y :: t := by
  unfold swapAt
  have h1 : (p ++ y :: x :: t).getD (p.length + 1) 0 = x := by simp [List.getD_eq_getElem?_getD]
  have h0 : (p ++ y :: x :: t).getD p.length 0 = y := by simp [List.getD_eq_getElem?_getD]
  rw [h1, h0, List.set_append_right _ _ (by omega), Nat.add_sub_cancel_left, List.set_append_right _ _ (by omega), Nat.sub_self]
  rfl

theorem sink_app (key : Int → Int) : ∀ (r : List Int) (x : Int) (t : List Int), sink key r.length (r.reverse ++ x :: t) = (insRev key x r).reverse ++ t
  | [], x, t => rfl
  | y :: r, x, t => by
    rw [List.length_cons, sink]
    have e : (y :: r).reverse ++ x :: t = r.reverse ++ y :: x :: t := by simp
    have hl : r.length = r.reverse.length := by simp
    have h1 : ((y :: r).reverse ++ x :: t).getD (r.length + 1) 0 = x := by rw [e, hl]; simp [List.getD_eq_getElem?_getD]
    have h0 : ((y :: r).reverse ++ x :: t).getD r.length 0 = y := by rw [e, hl]; simp [List.getD_eq_getElem?_getD]
    rw [h1, h0]
    unfold insRev
    by_cases h : key x < key y
    · rw [if_pos h, if_pos h, e]
      have := swapAt_app r.reverse y x t
      rw [← hl] at this
      rw [this, sink_app key r x (y :: t)]
      simp
    · rw [if_neg h, if_neg h, e]
      simp

def revSort (key : Int → Int) (xs : List Int) : List Int := xs.foldl (fun r x => insRev key x r) []
theorem insRev_len (key : Int → Int) (x : Int) : ∀ r : List Int, (insRev key x r).length = r.length + 1
  | [] => rfl
  | y :: r => by
    unfold insRev
    split
    · simp [insRev_len key x r]
    · simp
theorem revSort_len (key : Int → Int) (xs : List Int) : (revSort key xs).length = xs.length := by
  have : ∀ (l r : List Int), (l.foldl (fun r x => insRev key x r) r).length = r.length + l.length := by
    intro l
    induction l with
    | nil => intro r; simp
    | cons x l ih => intro r; rw [List.foldl_cons, ih, insRev_len]; simp; omega
  simpa [revSort] using this xs []
theorem isortTo_rev (key : Int → Int) (xs : List Int) : ∀ k, k ≤ xs.length → isortTo key xs k = (revSort key (xs.take k)).reverse ++ xs.drop k
  | 0, _ => by simp [isortTo, revSort]
  | k + 1, hk => by
    have ih := isortTo_rev key xs k (by omega)
    have hd : xs.drop k = xs[k] :: xs.drop (k + 1) := List.drop_eq_getElem_cons (by omega)
    have ht : xs.take (k + 1) = xs.take k ++ [xs[k]] := by rw [List.take_succ_eq_append_getElem (by omega)]
    have hl : (revSort key (xs.take k)).length = k := by rw [revSort_len, List.length_take]; omega
    have hs := sink_app key (revSort key (xs.take k)) xs[k] (xs.drop (k + 1))
    rw [hl] at hs
    have e : revSort key (xs.take (k + 1)) = insRev key xs[k] (revSort key (xs.take k)) := by
      rw [ht]
      unfold revSort
      rw [List.foldl_append]
      rfl
    rw [isortTo, ih, hd, hs, e]
theorem isortTo_done (key : Int → Int) (xs : List Int) : isortTo key xs xs.length = (revSort key xs).reverse := by
  rw [isortTo_rev key xs xs.length (Nat.le_refl _)]
  simp

theorem insRev_mem {key : Int → Int} {x y : Int} : ∀ {r : List Int}, y ∈ insRev key x r ↔ y = x ∨ y ∈ r
  | [] => by simp [insRev]
  | z :: r => by
    unfold insRev
    split
    · simp only [List.mem_cons, insRev_mem (r := r)]
      exact ⟨fun h => by rcases h with h | h | h <;> simp [h], fun h => by rcases h with h | h | h <;> simp [h]⟩
    · simp
theorem insRev_sorted {key : Int → Int} {x : Int} : ∀ {r : List Int}, r.Pairwise (fun a b => lexLt key b a) → (∀ y ∈ r, y < x) → (insRev key x r).Pairwise (fun a b => lexLt key b a)
  | [], _, _ => by simp [insRev]
  | y :: r, h, hx => by
    have hp := List.pairwise_cons.1 h
    unfold insRev
    by_cases e : key x < key y
    · rw [if_pos e, List.pairwise_cons]
      refine ⟨fun z hz => ?_, insRev_sorted hp.2 (fun z hz => hx z (by simp [hz]))⟩
      rcases insRev_mem.1 hz with rfl | hz
      · exact .inl e
      · exact hp.1 z hz
    · rw [if_neg e, List.pairwise_cons]
      refine ⟨fun z hz => ?_, h⟩
      have hyx : lexLt key y x := by
        have := hx y (by simp)
        unfold lexLt
        omega
      rcases List.mem_cons.1 hz with rfl | hz
      · exact hyx
      · exact lexLt_trans (hp.1 z hz) hyx

def iotaI (n : Nat) : List Int := tab n (fun i => (i : Int))
theorem iotaI_mem {n : Nat} {x : Int} : x ∈ iotaI n ↔ 0 ≤ x ∧ x < n := by
  unfold iotaI tab
  simp only [List.mem_map, List.mem_range]
  constructor
  · rintro ⟨a, ha, rfl⟩
    omega
  · intro h
    exact ⟨x.toNat, by omega, by omega⟩
theorem iotaI_len (n : Nat) : (iotaI n).length = n := tab_len _ _
theorem iotaI_snoc (n : Nat) : iotaI (n + 1) = iotaI n ++ [(n : Int)] := by rw [iotaI, iotaI, ← tab_snoc]

theorem revSort_iota (key : Int → Int) : ∀ n : Nat, (revSort key (iotaI n)).Pairwise (fun a b => lexLt key b a) ∧ ∀ x, x ∈ revSort key (iotaI n) ↔ 0 ≤ x ∧ x < n
  | 0 => ⟨by simp [revSort, iotaI, tab], fun x => by simp [revSort, iotaI, tab]⟩
  | n + 1 => by
    have ih := revSort_iota key n
    have e : revSort key (iotaI (n + 1)) = insRev key n (revSort key (iotaI n)) := by rw [iotaI_snoc]; simp [revSort, List.foldl_append]
    rw [e]
    refine ⟨insRev_sorted ih.1 (fun y hy => by have := (ih.2 y).1 hy; omega), fun x => ?_⟩
    rw [insRev_mem, ih.2 x]
    omega

/-- The indices 0 to n-1 by key, those with equal keys in their order. -/
def sortBy (key : Int → Int) (n : Nat) : List Int := isortTo key (iotaI n) n
theorem sortBy_eq (key : Int → Int) (n : Nat) : sortBy key n = (revSort key (iotaI n)).reverse := by
  have := isortTo_done key (iotaI n)
  rw [iotaI_len] at this
  exact this
theorem sortBy_sorted (key : Int → Int) (n : Nat) : (sortBy key n).Pairwise (lexLt key) := by
  rw [sortBy_eq, List.pairwise_reverse]
  exact (revSort_iota key n).1
theorem sortBy_mem {key : Int → Int} {n : Nat} {x : Int} : x ∈ sortBy key n ↔ 0 ≤ x ∧ x < n := by
  rw [sortBy_eq, List.mem_reverse]
  exact (revSort_iota key n).2 x
theorem sortBy_len (key : Int → Int) (n : Nat) : (sortBy key n).length = n := by
  rw [sortBy, isortTo_len, iotaI_len]
theorem sortBy_unique {key : Int → Int} {n : Nat} {l : List Int} (h : l.Pairwise (lexLt key)) (hm : ∀ x, x ∈ l ↔ 0 ≤ x ∧ x < n) : l = sortBy key n :=
  sorted_eq h (sortBy_sorted key n) (fun x => by rw [hm x, sortBy_mem])
end Go.Proofs.Yteloapholoechab
