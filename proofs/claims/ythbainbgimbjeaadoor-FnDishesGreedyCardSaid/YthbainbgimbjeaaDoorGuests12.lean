/- Guests12: contracts of SeatsLeast, of the program and of the reference model.
   Conditions: lists have at most 1048576 elements. -/
import Derived.Test.YthbainbgimbjeaaDoorZ4
namespace Go.Proofs.YthbainbgimbjeaaDoor
open Go.RowKit Go.ChangeShapes Go.WideShapes Go.ChangeAt Go.Deep

theorem sl_no {g : Int} {q : List Int} (h : quarOk g q = false) : seatsLeastL g q = -1 := by unfold seatsLeastL; rw [h]; rfl
theorem orI_comm (a b : Int) : orI a b = orI b a := by unfold orI; rw [Nat.or_comm]
/-- A part of a set, and what is left of it. -/
theorem within_iff (p s : Int) : (dropI p s == 0) = (meetI p s == p) := by
  rw [Bool.eq_iff_iff, beq_iff_eq, beq_iff_eq]
  unfold dropI meetI
  omega
theorem rest_of {p s : Int} (h : (meetI p s == p) = true) : dropI s p = s - p := by
  rw [beq_iff_eq] at h
  unfold meetI at h
  unfold dropI
  rw [orI_comm]
  omega

theorem l1Meet64_w (a b : Int) (w : World) (h0 : 0 ≤ a) (h1 : a < 64) (h2 : 0 ≤ b) (h3 : b < 64) :
    Calls Tryd.prog 42 #[.int .i64 a, .int .i64 b] w fun e w' => e = .returned (.int .i64 (meetI a b)) ∧ w = w' := (l1Meet64_any a b w h0 h1 h2 h3).mono fun _ _ h => ⟨h.1, h.2.symm⟩

theorem getD_low {T : List Int} (hT : ∀ x ∈ T, 0 ≤ x ∧ x ≤ 64) (i : Nat) : 0 ≤ T.getD i 0 := by
  by_cases e : i < T.length
  · rw [show T.getD i 0 = T[i] from by simp [e]]
    exact (hT _ (List.getElem_mem e)).1
  · rw [show T.getD i 0 = 0 from by simp [e]]
    omega
theorem partGo_range (q T : List Int) (s init : Int) (hT : ∀ x ∈ T, 0 ≤ x ∧ x ≤ 64) (h0 : 0 ≤ init) (h1 : init ≤ 64) : ∀ n, 0 ≤ partGo q T s init n ∧ partGo q T s init n ≤ 64
  | 0 => ⟨h0, h1⟩
  | n + 1 => by
    have ih := partGo_range q T s init hT h0 h1 n
    unfold partGo
    split
    · have := getD_low hT (s - ((n + 1 : Nat) : Int)).toNat
      omega
    · exact ih
theorem tblI_range (q : List Int) : ∀ n, ∀ x ∈ tblI q n, 0 ≤ x ∧ x ≤ 64
  | 0, x, hx => by simp [tblI] at hx
  | n + 1, x, hx => by
    unfold tblI at hx
    rcases List.mem_append.1 hx with h | h
    · exact tblI_range q n x h
    · obtain rfl : x = cellI q (tblI q n) n := by simpa using h
      have hz := sz_bound n
      exact partGo_range q _ n _ (tblI_range q n) hz.1 hz.2 n
theorem partGo_yes {q T : List Int} {s init : Int} {p : Nat} {v y : Int} (h : partGo q T s init p = v) (h1 : (meetI ((p + 1 : Nat) : Int) s == ((p + 1 : Nat) : Int)) = true) (h2 : apartS ((p + 1 : Nat) : Int) q = true) (hy : T.getD (s - ((p + 1 : Nat) : Int)).toNat 0 = y) : partGo q T s init (p + 1) = if v ≤ y + 1 then v else y + 1 := by
  unfold partGo
  rw [h1, h2, if_pos (show (true && true) = true from rfl), h, hy]
  split <;> omega
theorem partGo_not {q T : List Int} {s init : Int} {p : Nat} {v : Int} (h : partGo q T s init p = v) (h1 : ((meetI ((p + 1 : Nat) : Int) s == ((p + 1 : Nat) : Int)) && apartS ((p + 1 : Nat) : Int) q) = false) : partGo q T s init (p + 1) = v := by
  unfold partGo
  rw [h1, if_neg (by decide), h]
end Go.Proofs.YthbainbgimbjeaaDoor
