/- OrderOk: contracts of the program and of the reference model.
   Conditions: lists have at most 1048576 elements. -/
import Derived.Test.YtgagfaajilbmmaaDoorOrders0
import Derived.Test.YtgagfaajilbmmaaDoorStock
namespace Go.Proofs.YtgagfaajilbmmaaDoor
open Go.RowKit

theorem rangeOk_false_at' {m : Int} {xs : List Int} {i : Nat} {p : Int} (hp : xs[i]? = some p) (h : inR p 0 m = false) : rangeOk m xs = false := by
  unfold rangeOk
  cases e : xs.all (fun x => inR x 0 m) with
  | false => rfl
  | true => rw [List.all_eq_true.1 e p (List.mem_of_getElem? hp)] at h; cases h

theorem freshGo_step {seen : List Int} {x : Int} {r : List Int} : freshGo seen (x :: r) = (!(hasI seen x) && freshGo (seen ++ [x]) r) := rfl

theorem take_snoc {xs : List Int} {k : Nat} (h : k < xs.length) : xs.take (k + 1) = xs.take k ++ [xs[k]] := by rw [List.take_succ_eq_append_getElem h]

theorem hasI_snoc {xs : List Int} {x y : Int} : hasI (xs ++ [x]) y = (hasI xs y || (x == y)) := by simp [hasI, List.any_append]

theorem fresh_take {xs : List Int} {k : Nat} (h : k < xs.length) : freshGo (xs.take k) (xs.drop k) = (!(hasI (xs.take k) xs[k]) && freshGo (xs.take (k + 1)) (xs.drop (k + 1))) := by
  rw [List.drop_eq_getElem_cons h, freshGo_step, take_snoc h]

end Go.Proofs.YtgagfaajilbmmaaDoor
