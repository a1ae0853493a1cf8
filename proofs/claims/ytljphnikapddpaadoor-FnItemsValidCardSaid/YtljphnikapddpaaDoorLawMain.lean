/- The program's own note of what it is of, once for all laws.
   Conditions: none. -/
import Derived.Test.YtljphnikapddpaaDoorLawKit
namespace Go.Proofs.YtljphnikapddpaaDoor
open Go.RowKit Go.ChangeShapes Go.WideShapes Go.ChangeAt Go.Deep
set_option maxRecDepth 100000 in
theorem main_is : Tryd.prog.mainIs = some ((true, "0daefa8b6272ed96c9d1ce4fdbf94d6d2bdadd2b12890f43ee0955802ca3eb0f").1, (true, "0daefa8b6272ed96c9d1ce4fdbf94d6d2bdadd2b12890f43ee0955802ca3eb0f").2.toList) := by kernel_rfl
end Go.Proofs.YtljphnikapddpaaDoor
