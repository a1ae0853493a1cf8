/- Contracts of toPlan, eqPlan and PricesValid; the reading of numbers and plans as a row's arguments.
   Conditions: the bounds in each statement. -/
import Derived.Test.YtaelapimchmbcaaDoorInts
import Derived.Test.YtaelapimchmbcaaDoorRead
namespace Go.Proofs.YtaelapimchmbcaaDoor
open Go.RowKit

def pricesOk (l : List Item) (xs : List Int) : Bool := itemsOk l && (decide ((xs.length : Int) = l.length) && rangeOk 20 xs)

end Go.Proofs.YtaelapimchmbcaaDoor
