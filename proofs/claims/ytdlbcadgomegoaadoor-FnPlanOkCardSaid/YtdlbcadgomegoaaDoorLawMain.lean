/- The program's own note of what it is of, once for all laws.
   Conditions: none. -/
import Derived.Test.YtdlbcadgomegoaaDoorLawKit
namespace Go.Proofs.YtdlbcadgomegoaaDoor
open Go.RowKit Go.ChangeShapes Go.WideShapes Go.ChangeAt Go.Deep
set_option maxRecDepth 100000 in
theorem main_is : Tryd.prog.mainIs = some ((true, "431d983ad1c4a42bf74b58a455178ebbf6f3774b1273fa1311ee86e2b6bbc9d5").1, (true, "431d983ad1c4a42bf74b58a455178ebbf6f3774b1273fa1311ee86e2b6bbc9d5").2.toList) := by kernel_rfl
end Go.Proofs.YtdlbcadgomegoaaDoor
