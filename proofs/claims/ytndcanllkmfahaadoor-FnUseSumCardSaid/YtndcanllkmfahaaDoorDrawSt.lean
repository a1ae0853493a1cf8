/- Contracts of the draws of lots, and of lots and a day.
   Conditions: the bounds in each statement. -/
import Derived.Test.YtndcanllkmfahaaDoorDrawLots
namespace Go.Proofs.YtndcanllkmfahaaDoor
open Go.RowKit

def DrewL (w : World) (e : Ending) (w' : World) : Prop := ∃ (ls : List Lot) (g c : Nat), e = .returned (.slice (some ⟨g, 0, none⟩) ls.length c) ∧ LotSl w' w.heap.size (.slice (some ⟨g, 0, none⟩) ls.length c) ls ∧ ls.length ≤ 6 ∧ Below w.heap.size w w'
def DrewLD (w : World) (e : Ending) (w' : World) : Prop := ∃ (ls : List Lot) (g c : Nat) (d : Int), e = .returned (.tuple #[.slice (some ⟨g, 0, none⟩) ls.length c, .int .i64 d]) ∧ LotSl w' w.heap.size (.slice (some ⟨g, 0, none⟩) ls.length c) ls ∧ ls.length ≤ 6 ∧ -1 ≤ d ∧ d ≤ 6 ∧ Below w.heap.size w w'

end Go.Proofs.YtndcanllkmfahaaDoor
