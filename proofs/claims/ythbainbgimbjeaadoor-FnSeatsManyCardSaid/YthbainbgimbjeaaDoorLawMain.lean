/- The program's own note of what it is of, once for all laws.
   Conditions: none. -/
import Derived.Test.YthbainbgimbjeaaDoorLawKit
namespace Go.Proofs.YthbainbgimbjeaaDoor
open Go.RowKit Go.ChangeShapes Go.WideShapes Go.ChangeAt Go.Deep
set_option maxRecDepth 100000 in
theorem main_is : Tryd.prog.mainIs = some ((true, "4651eab332fbdc17ba63bf9a955cb3c6cda6fe57b4ba80af1b470605c21f6def").1, (true, "4651eab332fbdc17ba63bf9a955cb3c6cda6fe57b4ba80af1b470605c21f6def").2.toList) := by kernel_rfl
end Go.Proofs.YthbainbgimbjeaaDoor
