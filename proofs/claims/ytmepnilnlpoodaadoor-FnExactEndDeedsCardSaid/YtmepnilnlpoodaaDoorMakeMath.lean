/- What a plan makes of a stock, item after item.
   Conditions: none. -/
import Derived.Test.YtmepnilnlpoodaaDoorOk
namespace Go.Proofs.YtmepnilnlpoodaaDoor
open Go.RowKit

/-- The parts that r runs of an item take, one after the other; none where a thing is short. -/
def mkParts (r : Int) : List Part → List Int → Option (List Int)
  | [], now => some now
  | p :: ps, now => if now.getD p.of.toNat 0 - p.many * r < 0 then none else mkParts r ps (now.set p.of.toNat (now.getD p.of.toNat 0 - p.many * r))
def mkGo (rs : List Int) : Nat → List Item → List Int → Option (List Int)
  | _, [], now => some now
  | k, x :: xs, now => match mkParts (rs.getD k 0) x.parts now with
    | none => none
    | some n1 => mkGo rs (k + 1) xs (n1.set k (n1.getD k 0 + madeI x.yield (rs.getD k 0)))
def makeRunL (l : List Item) (stock rs : List Int) : Option (List Int) := if itemsOk l = true ∧ amtOk l stock = true ∧ runsOk l rs = true then mkGo rs 0 l stock else none

theorem makeRun_no1 {l : List Item} {stock rs : List Int} (h : itemsOk l = false) : makeRunL l stock rs = none := by unfold makeRunL; rw [h]; exact if_neg (fun e => by simp at e)
theorem makeRun_no2 {l : List Item} {stock rs : List Int} (h : amtOk l stock = false) : makeRunL l stock rs = none := by unfold makeRunL; rw [h]; exact if_neg (fun e => by simp at e)
theorem makeRun_no3 {l : List Item} {stock rs : List Int} (h : runsOk l rs = false) : makeRunL l stock rs = none := by unfold makeRunL; rw [h]; exact if_neg (fun e => by simp at e)
theorem makeRun_go {l : List Item} {stock rs : List Int} (h1 : itemsOk l = true) (h2 : amtOk l stock = true) (h3 : runsOk l rs = true) : makeRunL l stock rs = mkGo rs 0 l stock := if_pos ⟨h1, h2, h3⟩

theorem mkParts_none {r : Int} {p : Part} {ps qs : List Part} {now now0 : List Int} (h : mkParts r qs now0 = mkParts r (p :: ps) now) (hv : now.getD p.of.toNat 0 - p.many * r < 0) : mkParts r qs now0 = none := by
  rw [h]; unfold mkParts; rw [if_pos hv]
theorem mkParts_some {r : Int} {p : Part} {ps qs : List Part} {now now0 : List Int} (h : mkParts r qs now0 = mkParts r (p :: ps) now) (hv : ¬ now.getD p.of.toNat 0 - p.many * r < 0) : mkParts r qs now0 = mkParts r ps (now.set p.of.toNat (now.getD p.of.toNat 0 - p.many * r)) := by
  rw [h]; rw [show mkParts r (p :: ps) now = if now.getD p.of.toNat 0 - p.many * r < 0 then none else mkParts r ps (now.set p.of.toNat (now.getD p.of.toNat 0 - p.many * r)) from rfl, if_neg hv]
theorem mkGo_none {rs : List Int} {k : Nat} {x : Item} {xs : List Item} {now : List Int} {a : Option (List Int)} (h : a = mkGo rs k (x :: xs) now) (hp : mkParts (rs.getD k 0) x.parts now = none) : a = none := by
  rw [h]; unfold mkGo; rw [hp]
theorem mkGo_some {rs : List Int} {k : Nat} {x : Item} {xs : List Item} {now n1 : List Int} {a : Option (List Int)} (h : a = mkGo rs k (x :: xs) now) (hp : mkParts (rs.getD k 0) x.parts now = some n1) : a = mkGo rs (k + 1) xs (n1.set k (n1.getD k 0 + madeI x.yield (rs.getD k 0))) := by
  rw [h]; rw [show mkGo rs k (x :: xs) now = match mkParts (rs.getD k 0) x.parts now with
    | none => none
    | some n1 => mkGo rs (k + 1) xs (n1.set k (n1.getD k 0 + madeI x.yield (rs.getD k 0))) from rfl, hp]

/-- Every number of the row lies from 0 to B. -/
def NowIn (B : Int) (n : Nat) (now : List Int) : Prop := now.length = n ∧ ∀ x ∈ now, 0 ≤ x ∧ x ≤ B
theorem NowIn.at {B : Int} {n : Nat} {now : List Int} (h : NowIn B n now) {i : Nat} (hi : i < n) : ∃ x, now[i]? = some x ∧ now.getD i 0 = x ∧ 0 ≤ x ∧ x ≤ B := by
  have hi' : i < now.length := by rw [h.1]; exact hi
  exact ⟨now[i], List.getElem?_eq_getElem hi', by simp [hi'], (h.2 _ (List.getElem_mem hi')).1, (h.2 _ (List.getElem_mem hi')).2⟩
theorem NowIn.set {B : Int} {n : Nat} {now : List Int} (h : NowIn B n now) (i : Nat) {v : Int} (h0 : 0 ≤ v) (h1 : v ≤ B) : NowIn B n (now.set i v) := by
  refine ⟨by rw [List.length_set]; exact h.1, fun x hx => ?_⟩
  rcases List.mem_or_eq_of_mem_set hx with h2 | h2
  · exact h.2 x h2
  · omega
theorem NowIn.mono {B B' : Int} {n : Nat} {now : List Int} (h : NowIn B n now) (hb : B ≤ B') : NowIn B' n now := ⟨h.1, fun x hx => by have := h.2 x hx; omega⟩
end Go.Proofs.YtmepnilnlpoodaaDoor
