/- The program's own note of what it is of, once for all laws.
   Conditions: none. -/
import Derived.Test.YtaelapimchmbcaaDoorLawKit
namespace Go.Proofs.YtaelapimchmbcaaDoor
open Go.RowKit Go.ChangeShapes Go.WideShapes Go.ChangeAt Go.Deep
set_option maxRecDepth 100000 in
theorem main_is : Tryd.prog.mainIs = some ((true, "42ed73576d0d23b1fe78a90f9f0287912c31cf7ada755f8b512e18aefeda310c").1, (true, "42ed73576d0d23b1fe78a90f9f0287912c31cf7ada755f8b512e18aefeda310c").2.toList) := by kernel_rfl
end Go.Proofs.YtaelapimchmbcaaDoor
