/- The program's own note of what it is of, once for all laws.
   Conditions: none. -/
import Derived.Test.YtgagfaajilbmmaaDoorLawKit
namespace Go.Proofs.YtgagfaajilbmmaaDoor
open Go.RowKit Go.ChangeShapes Go.WideShapes Go.ChangeAt Go.Deep
set_option maxRecDepth 100000 in
theorem main_is : Tryd.prog.mainIs = some ((true, "23267302957c603eeea2b4b938823f899e732e687ab63bd71a1faefa3d3c0849").1, (true, "23267302957c603eeea2b4b938823f899e732e687ab63bd71a1faefa3d3c0849").2.toList) := by kernel_rfl
end Go.Proofs.YtgagfaajilbmmaaDoor
