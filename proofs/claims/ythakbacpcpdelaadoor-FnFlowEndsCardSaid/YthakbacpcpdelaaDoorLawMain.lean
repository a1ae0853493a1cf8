/- The program's own note of what it is of, once for all laws.
   Conditions: none. -/
import Derived.Test.YthakbacpcpdelaaDoorLawKit
namespace Go.Proofs.YthakbacpcpdelaaDoor
open Go.RowKit Go.ChangeShapes Go.WideShapes Go.ChangeAt Go.Deep
set_option maxRecDepth 100000 in
theorem main_is : Tryd.prog.mainIs = some ((true, "9760c54d1b61a702f24a6a558baeb92a3e59e6e6eeaeb9f40c00c6dfca6b3c1e").1, (true, "9760c54d1b61a702f24a6a558baeb92a3e59e6e6eeaeb9f40c00c6dfca6b3c1e").2.toList) := by kernel_rfl
end Go.Proofs.YthakbacpcpdelaaDoor
