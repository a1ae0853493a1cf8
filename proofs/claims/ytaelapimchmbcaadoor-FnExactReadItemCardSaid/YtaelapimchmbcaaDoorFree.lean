/- Contracts of FreeOf, of the program and of the reference model: both make one list of the items and the set of allergens.
   Conditions: the list and each item's parts have at most 1048576 elements. -/
import Derived.Test.YtaelapimchmbcaaDoorMarks
import Derived.Test.YtaelapimchmbcaaDoorCost
import Derived.Maps.AppendAt
namespace Go.Proofs.YtaelapimchmbcaaDoor
open Go.RowKit

/-- The slice value v owns, from block lo on, the numbers. -/
def IntSl (w : World) (lo : Nat) (v : Value) (xs : List Int) : Prop := w.ownsRow lo 3 1 v xs.length (xs.map (Value.int .i64))

theorem IntSl.form {w : World} {lo : Nat} {v : Value} {xs : List Int} (h : IntSl w lo v xs) : ∃ A c, v = .slice A xs.length c ∧ IntsAt w A xs ∧ ∀ b, A = some b → lo ≤ b.block ∧ b.block < w.heap.size := by
  have hlt := h.lt
  obtain ⟨_, h2⟩ := h
  rcases h2 with ⟨rfl, hn⟩ | ⟨g, cap, cur, rfl, hb, hg, hnc, hcm, hcs, htake⟩
  · have : xs = [] := List.eq_nil_of_length_eq_zero hn
    subst this
    exact ⟨none, 0, rfl, fun i x hx => by simp at hx, fun b hb => by cases hb⟩
  · refine ⟨_, cap, rfl, fun i x hx => ?_, fun b hb => by injection hb with hb; subst hb; exact hlt g rfl⟩
    have hi : i < xs.length := (List.getElem?_eq_some_iff.1 hx).1
    refine ⟨g, 0, rfl, (hlt g rfl).2, ?_⟩
    have := World.ownsRow.cellAt (w := w) (base := lo) (e := 3) (size := 1) (g := g) (n := xs.length) (cap := cap) (xs := xs.map (Value.int .i64)) ⟨by simp, .inr ⟨g, cap, cur, rfl, hb, hg, hnc, hcm, hcs, htake⟩⟩ i (by omega)
    rw [Nat.zero_add, this]
    simp [hx]

theorem IntSl.below {w w' : World} {lo : Nat} {v : Value} {xs : List Int} (h : IntSl w lo v xs) (hb : Below w.heap.size w w') : IntSl w' lo v xs := by
  have hlt := h.lt
  obtain ⟨h1, h2⟩ := h
  refine ⟨h1, ?_⟩
  rcases h2 with hn | ⟨g, cap, cur, rfl, hb0, hg, r⟩
  · exact .inl hn
  · exact .inr ⟨g, cap, cur, rfl, hb0, (hb.block g (hlt g rfl).2).trans hg, r⟩

theorem IntSl.mono {w : World} {lo lo' : Nat} {v : Value} {xs : List Int} (h : IntSl w lo v xs) (hl : lo' ≤ lo) : IntSl w lo' v xs := by
  obtain ⟨h1, h2⟩ := h
  refine ⟨h1, ?_⟩
  rcases h2 with hn | ⟨g, cap, cur, rfl, hb0, r⟩
  · exact .inl hn
  · exact .inr ⟨g, cap, cur, rfl, Nat.le_trans hl hb0, r⟩

/-- None of the allergens of a set is in another. -/
def meet0 (a b : Int) : Bool := a + b - orI a b == 0

theorem meet_all : ∀ x y : Fin 32, (bits .and .i64 (x.val : Int) (y.val : Int) == 0) = meet0 x.val y.val := by decide +kernel

theorem meet_all' (x y : Int) (h0 : 0 ≤ x) (h1 : x ≤ 31) (k0 : 0 ≤ y) (k1 : y ≤ 31) : (bits .and .i64 x y == 0) = meet0 x y := by
  have := meet_all ⟨x.toNat, by omega⟩ ⟨y.toNat, by omega⟩
  simpa [Int.toNat_of_nonneg h0, Int.toNat_of_nonneg k0] using this

theorem marksFrom_range {s : Int} : ∀ (l : List Item) (k : Nat) (m : Int), 0 ≤ m → m < 2 ^ 5 → (∀ x ∈ l, 0 ≤ x.marks ∧ x.marks ≤ 31) → 0 ≤ marksFrom s k l m ∧ marksFrom s k l m < 2 ^ 5
  | [], _, _, h0, h1, _ => ⟨h0, h1⟩
  | x :: r, k, m, h0, h1, hx => by
    unfold marksFrom
    have hm := hx x (by simp)
    split
    · have := orI_pow (m := 5) (a := m) (b := x.marks) h1 (by show x.marks < 32; omega) h0 hm.1
      exact marksFrom_range r _ _ this.1 this.2 (fun y hy => hx y (by simp [hy]))
    · exact marksFrom_range r _ _ h0 h1 (fun y hy => hx y (by simp [hy]))

theorem marksL_range {l : List Item} (h : itemsOk l = true) {k : Int} (h0 : 0 ≤ k) (h1 : k < l.length) : 0 ≤ marksL l k ∧ marksL l k ≤ 31 := by
  have hu : ¬ usesL l k < 0 := by
    have hr : inR k 0 ((l.length : Int) - 1) = true := inR_iff.2 (by omega)
    unfold usesL
    rw [if_pos (by simp [h, hr])]
    have := (usesGo_pow h (m := k.toNat + 1) (k.toNat + 1) (2 ^ k.toNat) (by omega) (by omega) (Int.pow_nonneg (by omega)) (by
      have := Nat.pow_lt_pow_right (a := 2) (by omega) (show k.toNat < k.toNat + 1 by omega)
      have e : ((2 : Int) ^ (k.toNat + 1)) = ((2 ^ (k.toNat + 1) : Nat) : Int) := by simp
      have e' : ((2 : Int) ^ k.toNat) = ((2 ^ k.toNat : Nat) : Int) := by simp
      rw [e, e']
      omega)).1
    omega
  unfold marksL
  rw [if_neg hu]
  have := marksFrom_range (s := usesL l k) l 0 0 (by omega) (by decide) (fun x hx => by
    obtain ⟨i, hi⟩ := List.getElem?_of_mem hx
    have := itemsOk_at h hi
    exact ⟨this.1, this.2.1⟩)
  have h2 : (2 : Int) ^ 5 = 32 := by decide
  omega

def freeFrom (l : List Item) (avoid : Int) : Nat → List Item → List Int
  | _, [] => []
  | k, x :: r => (if (decide (0 < x.yield) && meet0 (marksL l k) avoid) = true then [(k : Int)] else []) ++ freeFrom l avoid (k + 1) r

def freeL (l : List Item) (avoid : Int) : List Int := if (itemsOk l && inR avoid 0 31) = true then freeFrom l avoid 0 l else []

theorem info3 : (Tryd.prog.info? 3).map (fun i => (i.zero, i.size, i.bytes)) = some (some (.int .i64 0), 1, 8) := by kernel_rfl

end Go.Proofs.YtaelapimchmbcaaDoor
