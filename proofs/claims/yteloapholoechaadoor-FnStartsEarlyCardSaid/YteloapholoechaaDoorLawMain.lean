/- The program's own note of what it is of, once for all laws.
   Conditions: none. -/
import Derived.Test.YteloapholoechaaDoorLawKit
namespace Go.Proofs.YteloapholoechaaDoor
open Go.RowKit Go.ChangeShapes Go.WideShapes Go.ChangeAt Go.Deep
set_option maxRecDepth 100000 in
theorem main_is : Tryd.prog.mainIs = some ((true, "820ebaf077f0e303fd70e165d6e6b5a6224117fa7708b956a42fe90b367f42b2").1, (true, "820ebaf077f0e303fd70e165d6e6b5a6224117fa7708b956a42fe90b367f42b2").2.toList) := by kernel_rfl
end Go.Proofs.YteloapholoechaaDoor
