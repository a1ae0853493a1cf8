/- The program's own note of what it is of, once for all laws.
   Conditions: none. -/
import Derived.Test.YtgdbjnnimjhgbaaDoorLawKit
namespace Go.Proofs.YtgdbjnnimjhgbaaDoor
open Go.RowKit Go.ChangeShapes Go.WideShapes Go.ChangeAt Go.Deep
set_option maxRecDepth 100000 in
theorem main_is : Tryd.prog.mainIs = some ((true, "858cbc9b83c23a7d8e2d5a2f62019c87fa5939437677c18c8178cc042b5c37df").1, (true, "858cbc9b83c23a7d8e2d5a2f62019c87fa5939437677c18c8178cc042b5c37df").2.toList) := by kernel_rfl
end Go.Proofs.YtgdbjnnimjhgbaaDoor
