/- The program's own note of what it is of, once for all laws.
   Conditions: none. -/
import Derived.Test.YteocmjffjinphaaDoorLawKit
namespace Go.Proofs.YteocmjffjinphaaDoor
open Go.RowKit Go.ChangeShapes Go.WideShapes Go.ChangeAt Go.Deep
set_option maxRecDepth 100000 in
theorem main_is : Tryd.prog.mainIs = some ((true, "d02cb4b1ffe36576fde6c6250e797d18cf5ee742241366fa1d1a0c3f94e0dacc").1, (true, "d02cb4b1ffe36576fde6c6250e797d18cf5ee742241366fa1d1a0c3f94e0dacc").2.toList) := by kernel_rfl
end Go.Proofs.YteocmjffjinphaaDoor
