/- The program's own note of what it is of, once for all laws.
   Conditions: none. -/
import Derived.Test.YtndcanllkmfahaaDoorLawKit
namespace Go.Proofs.YtndcanllkmfahaaDoor
open Go.RowKit Go.ChangeShapes Go.WideShapes Go.ChangeAt Go.Deep
set_option maxRecDepth 100000 in
theorem main_is : Tryd.prog.mainIs = some ((true, "04395c9c68d5b3101b0e00b5f5fc9dab688d261019b080ef2ef888693580f509").1, (true, "04395c9c68d5b3101b0e00b5f5fc9dab688d261019b080ef2ef888693580f509").2.toList) := by kernel_rfl
end Go.Proofs.YtndcanllkmfahaaDoor
