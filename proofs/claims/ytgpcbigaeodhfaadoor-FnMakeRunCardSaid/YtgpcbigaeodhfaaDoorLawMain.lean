/- The program's own note of what it is of, once for all laws.
   Conditions: none. -/
import Derived.Test.YtgpcbigaeodhfaaDoorLawKit
namespace Go.Proofs.YtgpcbigaeodhfaaDoor
open Go.RowKit Go.ChangeShapes Go.WideShapes Go.ChangeAt Go.Deep
set_option maxRecDepth 100000 in
theorem main_is : Tryd.prog.mainIs = some ((true, "ef75af139aee1dd3ce56cd26cfe9014b5bcd58ded204b5a1e0a030abbadb989b").1, (true, "ef75af139aee1dd3ce56cd26cfe9014b5bcd58ded204b5a1e0a030abbadb989b").2.toList) := by kernel_rfl
end Go.Proofs.YtgpcbigaeodhfaaDoor
