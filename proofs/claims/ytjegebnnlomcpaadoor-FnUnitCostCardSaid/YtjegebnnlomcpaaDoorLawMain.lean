/- The program's own note of what it is of, once for all laws.
   Conditions: none. -/
import Derived.Test.YtjegebnnlomcpaaDoorLawKit
namespace Go.Proofs.YtjegebnnlomcpaaDoor
open Go.RowKit Go.ChangeShapes Go.WideShapes Go.ChangeAt Go.Deep
set_option maxRecDepth 100000 in
theorem main_is : Tryd.prog.mainIs = some ((true, "d40a5b0366306f1f72b7e473552aab07d3af6f5a471f2c2f63f6c2fa06317362").1, (true, "d40a5b0366306f1f72b7e473552aab07d3af6f5a471f2c2f63f6c2fa06317362").2.toList) := by kernel_rfl
end Go.Proofs.YtjegebnnlomcpaaDoor
