/- TogetherWaits: contracts of the program and of the reference model.
   Conditions: lists have at most 1048576 elements. -/
import Derived.Test.YteloapholoechabCook1
import Derived.Test.YteloapholoechabCook3
namespace Go.Proofs.Yteloapholoechab
open Go.RowKit

def kGo (k : Int) : List Int → Int
  | [] => 0
  | v :: r => k * v + kGo (k + 1) r
def waitsGo (l : Int) : List Int → Int
  | [] => 0
  | v :: r => (l - v) + waitsGo (l - v) r
def valsOf (spans order : List Int) : List Int := order.map (fun o => spans.getD o.toNat 0)
def togL (spans order : List Int) : Int := if (spansOk spans && orderOkL order (spans.length : Int)) = true then kGo 0 (valsOf spans order) else -1

theorem kGo_succ : ∀ (vs : List Int) (k : Int), kGo (k + 1) vs = kGo k vs + sumL vs
  | [], k => by simp [kGo, sumL]
  | v :: r, k => by
    have ih := kGo_succ r (k + 1)
    simp only [kGo, sumL, ih, Int.add_mul, Int.one_mul]
    omega
theorem waits_eq : ∀ vs : List Int, waitsGo (sumL vs) vs = kGo 0 vs
  | [] => rfl
  | v :: r => by
    have ih := waits_eq r
    have e := kGo_succ r 0
    simp only [waitsGo, kGo, sumL, Int.zero_mul]
    rw [show v + sumL r - v = sumL r from by omega, ih, e]
    omega
theorem tab_getD (xs : List Int) : tab xs.length (fun i => xs.getD i 0) = xs := by
  apply List.ext_getElem?
  intro i
  by_cases hi : i < xs.length
  · rw [tab_at hi, List.getElem?_eq_getElem hi]
    simp [hi]
  · rw [List.getElem?_eq_none (by rw [tab_len]; omega), List.getElem?_eq_none (by omega)]
theorem vals_sum {spans order : List Int} (h : orderOkL order (spans.length : Int) = true) : sumL (valsOf spans order) = sumL spans := by
  obtain ⟨n, hn, hl, hr, hd⟩ := orderOkL_parts h
  obtain rfl : n = spans.length := by omega
  have := sum_all (f := fun o => spans.getD o.toNat 0) spans.length order hd (fun x hx => by
    obtain ⟨i, hi⟩ := List.getElem?_of_mem hx
    have := rangeOk_at hr hi
    omega) hl
  unfold valsOf
  rw [this]
  have e := tab_getD spans
  simp only [Int.toNat_natCast]
  rw [e]
theorem vals_at {spans order : List Int} {k o : Nat} {s : Int} (h : order[k]? = some (o : Int)) (hs : spans[o]? = some s) : (valsOf spans order)[k]? = some s := by
  unfold valsOf
  rw [List.getElem?_map, h]
  simp [hs]
theorem vals_len (spans order : List Int) : (valsOf spans order).length = order.length := by simp [valsOf]
theorem drop_of_at {xs : List Int} {k : Nat} {v : Int} (h : xs[k]? = some v) : xs.drop k = v :: xs.drop (k + 1) := by
  obtain ⟨hk, e⟩ := List.getElem?_eq_some_iff.1 h
  rw [List.drop_eq_getElem_cons hk, e]

end Go.Proofs.Yteloapholoechab
