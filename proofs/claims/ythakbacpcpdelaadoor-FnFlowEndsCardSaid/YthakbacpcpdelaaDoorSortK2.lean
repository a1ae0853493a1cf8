/- The program's sort of indices by a key, and its use: the greatest numbers first.
   Conditions: lists have at most 19 elements. -/
import Derived.Test.YthakbacpcpdelaaDoorSortK
import Derived.Test.YthakbacpcpdelaaDoorSortMath2
namespace Go.Proofs.YthakbacpcpdelaaDoor
open Go.RowKit Go.ChangeShapes Go.WideShapes Go.ChangeAt Go.Deep

theorem KeyK.alloc {w : World} {g n gk : Nat} {kb : Array Value} {key : Int → Int} (h : KeyK w g n gk kb key) (o : Obj) : KeyK (w.alloc o) g n gk kb key :=
  fun W hg => h W ((World.grownBy_alloc w o _).trans hg)

end Go.Proofs.YthakbacpcpdelaaDoor
