/- TicketMay: contracts of the program and of the reference model.
   Conditions: lists have at most 1048576 elements; the two tables hold what the source says. -/
import Derived.Test.YtmepnilnlpoodaaDoorTick4
import Derived.Test.YtmepnilnlpoodaaDoorZeros
namespace Go.Proofs.YtmepnilnlpoodaaDoor
open Go.RowKit Go.ChangeShapes Go.WideShapes Go.ChangeAt Go.Deep

end Go.Proofs.YtmepnilnlpoodaaDoor
