/- Contracts of PlanOk, of the program and of the reference model: both answer one test of the list, what is wanted, the stock and the plan.
   Conditions: all lists have at most 1048576 elements. -/
import Derived.Test.YtmepnilnlpoodaaDoorPlan
import Derived.IntWalk
namespace Go.Proofs.YtmepnilnlpoodaaDoor
open Go.RowKit

def runsOk (l : List Item) (rs : List Int) : Bool := decide ((rs.length : Int) = l.length) && rangeOk 9999999 rs
def okAt (l : List Item) (want stock rs lf : List Int) (j : Nat) : Bool := decide (0 ≤ leftAt l want stock rs j) && decide (leftAt l want stock rs j = lf.getD j 0)
def planOkL (l : List Item) (want stock rs lf : List Int) : Bool :=
  amountsOk l want stock && (runsOk l rs && (decide ((lf.length : Int) = l.length) && allTo (okAt l want stock rs lf) l.length))

theorem keepBox {w w' : World} {B b : Nat} {u v : Value} (h : w.cell? ⟨b, 0, none⟩ = some u ∧ w.cell? ⟨b, 1, none⟩ = some v ∧ b < w.heap.size) (hB : Below B w w') (hb : b < B) :
    w'.cell? ⟨b, 0, none⟩ = some u ∧ w'.cell? ⟨b, 1, none⟩ = some v ∧ b < w'.heap.size :=
  ⟨(hB.cell hb).trans h.1, (hB.cell hb).trans h.2.1, Nat.lt_of_lt_of_le h.2.2 hB.size⟩

theorem eqLe {a b : Nat} (h : a = b) : a ≤ b ∧ b ≤ a := by omega

theorem runsOk_at {l : List Item} {rs : List Int} (h : runsOk l rs = true) : rs.length = l.length ∧ rangeOk 9999999 rs = true := by
  unfold runsOk at h
  simp only [Bool.and_eq_true, decide_eq_true_eq] at h
  exact ⟨by omega, h.2⟩

/-- What itemsOk says of the parts, as upS_range and upS_same want it. -/
theorem itemsOk_many {l : List Item} (h : itemsOk l = true) (i : Nat) (x : Item) (hx : l[i]? = some x) : x.parts.length ≤ 3 ∧ ∀ p ∈ x.parts, 0 ≤ p.many ∧ p.many ≤ 6 := by
  have := itemsOk_at h hx
  exact ⟨this.2.2.2.2.1, fun p hp => by have := this.2.2.2.2.2.2 p hp; omega⟩
theorem itemsOk_less {l : List Item} (h : itemsOk l = true) (i : Nat) (x : Item) (hx : l[i]? = some x) : ∀ p ∈ x.parts, p.of < (i : Int) := fun p hp => ((itemsOk_at h hx).2.2.2.2.2.2 p hp).2.1

end Go.Proofs.YtmepnilnlpoodaaDoor
