/- Facts of the whole program that each law's claim asks for, each once.
   Conditions: none. -/
import Derived.Test.YtaelapimchmbcaaDoorLawKit
namespace Go.Proofs.YtaelapimchmbcaaDoor
open Go.RowKit Go.ChangeShapes Go.WideShapes Go.ChangeAt Go.Deep
set_option maxRecDepth 100000 in
theorem enters_is : Tryd.prog.mayEnter = true := by kernel_rfl
set_option maxRecDepth 100000 in
theorem lifts_is : Tryd.prog.liftsFinal = false := by kernel_rfl
set_option maxRecDepth 100000 in
theorem make_is : Tryd.prog.make = some .cut := by kernel_rfl
end Go.Proofs.YtaelapimchmbcaaDoor
