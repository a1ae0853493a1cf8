/- The greatest numbers first: the contract of the program's helper.
   Conditions: the list has at most 19 elements, each between -1000000000000 and 1000000000000. -/
import Derived.Test.YteloapholoechabSortK2
namespace Go.Proofs.Yteloapholoechab
open Go.RowKit Go.ChangeShapes Go.WideShapes Go.ChangeAt Go.Deep

def negKey (xs : List Int) (i : Int) : Int := -(xs.getD i.toNat 0)
def gfL (xs : List Int) : List Int := sortBy (negKey xs) xs.length

theorem gfL_len (xs : List Int) : (gfL xs).length = xs.length := sortBy_len _ _
theorem gfL_mem {xs : List Int} {x : Int} : x ∈ gfL xs ↔ 0 ≤ x ∧ x < xs.length := sortBy_mem

end Go.Proofs.Yteloapholoechab
