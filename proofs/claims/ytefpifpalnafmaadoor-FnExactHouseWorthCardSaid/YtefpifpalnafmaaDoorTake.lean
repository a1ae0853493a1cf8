/- Contracts of TakeOk, of the program and of the reference model.
   Conditions: lists have at most 1048576 elements. -/
import Derived.Test.YtefpifpalnafmaaDoorStock
namespace Go.Proofs.YtefpifpalnafmaaDoor
open Go.RowKit

theorem takeTest {x : Lot} {t day : Int} (hx : 0 ≤ x.many) : inR t 0 (usab x day) = (inR t 0 x.many && !(decide (0 < t) && decide (x.last < day))) := by
  unfold usab inR
  rw [Bool.eq_iff_iff]
  by_cases h : x.last < day
  · simp [h]; omega
  · simp [h]

end Go.Proofs.YtefpifpalnafmaaDoor
