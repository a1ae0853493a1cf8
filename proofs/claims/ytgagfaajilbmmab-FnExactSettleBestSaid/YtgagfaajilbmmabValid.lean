/- Contracts of ItemsValid and its helpers, of the program and of the reference model: both compute one function of the list.
   Conditions: the list and each item's parts have at most 1048576 elements. -/
import Derived.Test.YtgagfaajilbmmabTo
namespace Go.Proofs.Ytgagfaajilbmmab
open Go.RowKit

def inR (n lo hi : Int) : Bool := decide (lo ≤ n ∧ n ≤ hi)

theorem inRange_is (n lo hi : Int) (b : Bool) (hb : Hid (inR n lo hi = b)) (w : World) :
    Calls Try.prog 31 #[.int .i64 n, .int .i64 lo, .int .i64 hi] w fun e w' => e = .returned (.bool b) ∧ w = w' := by
  obtain rfl : inR n lo hi = b := hb
  unfold inR
  by_cases h : lo ≤ n
  · go_enter Try.func31, Try.ntmps31
    go_wp2
    go_ret
    simp [h]
  · go_enter Try.func31, Try.ntmps31
    go_wp2
    go_ret
    simp; omega

def partsGo (index : Int) : Int → List Part → Bool
  | _, [] => true
  | least, p :: r => inR p.of least (index - 1) && (inR p.many 1 6 && partsGo index (p.of + 1) r)

def partsFitL (ps : List Part) (index : Int) : Bool := inR ps.length 1 3 && partsGo index 0 ps

theorem below_drewN {B : Nat} {a w : World} (h : Below B a w) (n : Nat) : Below B a (w.drewN n) := ⟨h.os, h.tape, h.output, h.size, h.block⟩

theorem inR_iff {n lo hi : Int} : inR n lo hi = true ↔ lo ≤ n ∧ n ≤ hi := by unfold inR; simp

theorem l1In_is (n lo hi : Int) (b : Bool) (hb : Hid (inR n lo hi = b)) (w : World) :
    Calls Try.prog 29 #[.int .i64 n, .int .i64 lo, .int .i64 hi] w fun e w' => e = .returned (.bool b) ∧ w' = w := by
  obtain rfl : inR n lo hi = b := hb
  unfold inR
  by_cases h : n ≥ lo
  · go_enter Try.func29, Try.ntmps29
    go_wp2
    go_ret
    simp [h]
  · go_enter Try.func29, Try.ntmps29
    go_wp2
    go_ret
    simp; omega

def itemOk (x : Item) (index : Int) : Bool :=
  inR x.marks 0 31 && (if x.yield = 0 then x.parts.length == 0 else inR x.yield 1 6 && partsFitL x.parts index)

def itemsGo : Int → List Item → Bool
  | _, [] => true
  | k, x :: r => itemOk x k && itemsGo (k + 1) r

def itemsOk (l : List Item) : Bool := decide (l.length ≤ 6) && itemsGo 0 l

def l1Go (index : Int) : Int → List Part → Bool
  | _, [] => true
  | prev, p :: r => inR p.of 0 (index - 1) && (inR p.many 1 6 && (decide (prev < p.of) && l1Go index p.of r))

theorem l1Go_eq (index : Int) (ps : List Part) : ∀ prev, -1 ≤ prev → l1Go index prev ps = partsGo index (prev + 1) ps := by
  induction ps with
  | nil => intro prev _; rfl
  | cons p r ih =>
    intro prev h
    have e1 : (inR p.of 0 (index - 1) && decide (prev < p.of)) = inR p.of (prev + 1) (index - 1) := by
      rw [Bool.eq_iff_iff]; simp only [Bool.and_eq_true, inR_iff, decide_eq_true_eq]; omega
    unfold l1Go partsGo
    rw [← e1]
    cases h1 : inR p.of 0 (index - 1)
    · rfl
    · rw [ih _ (by rw [inR_iff] at h1; omega)]
      cases inR p.many 1 6 <;> cases decide (prev < p.of) <;> rfl

def l1L (x : Item) (index : Int) : Bool :=
  l1Go index (-1) x.parts && (inR x.yield 0 6 && (decide (x.parts.length ≤ 3) && ((decide (x.yield > 0) == decide ((x.parts.length : Int) > 0)) && inR x.marks 0 31)))

theorem l1L_eq (x : Item) (index : Int) : l1L x index = itemOk x index := by
  unfold l1L itemOk
  rw [l1Go_eq _ _ _ (by omega)]
  show (partsGo index 0 x.parts && _) = _
  by_cases hy : x.yield = 0
  · rw [if_pos hy, hy]
    cases hps : x.parts with
    | nil => simp [partsGo, inR]
    | cons p r => simp [inR]
  · rw [if_neg hy]
    unfold partsFitL
    rw [Bool.eq_iff_iff]
    simp only [Bool.and_eq_true, inR_iff, decide_eq_true_eq, beq_iff_eq, decide_eq_decide]
    constructor
    · rintro ⟨a, b, c, d, e⟩; exact ⟨e, by omega, ⟨by omega, by omega⟩, a⟩
    · rintro ⟨e, b, ⟨c, d⟩, a⟩; exact ⟨a, by omega, by omega, by omega, e⟩

end Go.Proofs.Ytgagfaajilbmmab
