/- What the draw of a ticket leaves, and the draws of chapter 4 that are no more than that.
   Conditions: the bounds in each statement. -/
import Derived.Test.YteocmjffjinphaaDoorDrawTick
import Derived.Test.YteocmjffjinphaaDoorLawKit
namespace Go.Proofs.YteocmjffjinphaaDoor
open Go.RowKit Go.ChangeShapes Go.WideShapes Go.ChangeAt Go.Deep

/-- A ticket, drawn from bytes. -/
def DrawnTick (w : World) (e : Ending) (w' : World) : Prop := ∃ (ls : List Order) (A : Option Addr) (c : Nat), e = .returned (.slice A ls.length c) ∧ OrderSl w' w.heap.size (.slice A ls.length c) ls ∧ ls.length ≤ 7 ∧ Below w.heap.size w w'

end Go.Proofs.YteocmjffjinphaaDoor
