/- Guests4: those who share a dish with a guest; ApartValid of the program.
   Conditions: lists have at most 1048576 elements. -/
import Derived.Test.YtbkelmolhgofpacGuests3
namespace Go.Proofs.Ytbkelmolhgofpac
open Go.RowKit Go.ChangeShapes Go.WideShapes Go.ChangeAt Go.Deep

end Go.Proofs.Ytbkelmolhgofpac
