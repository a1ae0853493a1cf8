/- Contracts of the draws of an index, and of the arguments of UsesOf and MarksOf.
   Conditions: the bounds in each statement. -/
import Derived.Test.YtdlbcadgomegoaaDoorDraw3
namespace Go.Proofs.YtdlbcadgomegoaaDoor
open Go.RowKit

def DrewN (w : World) (b n : Nat) (lo hi : Int) (m : Nat) (e : Ending) (w' : World) : Prop := ∃ v : Int, e = .returned (.int .i64 v) ∧ lo ≤ v ∧ v ≤ hi ∧ Rd w' b (n + m) ∧ w.grownBy w' (some b)

def DrawIx (w : World) (e : Ending) (w' : World) : Prop := ∃ (l : List Item) (A : Option Addr) (c : Nat) (n : Int), e = .returned (.tuple #[.slice A l.length c, .int .i64 n]) ∧ ItemsAt w' A l ∧ l.length ≤ 7 ∧ (∀ x ∈ l, x.parts.length ≤ 5) ∧ -9 ≤ n ∧ n ≤ 2000 ∧ Below w.heap.size w w'

end Go.Proofs.YtdlbcadgomegoaaDoor
