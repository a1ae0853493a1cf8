/- Append of a whole slice onto one that the call owns; what a reader of drawn bytes and rows of the call's own keep.
   Conditions: the bounds in each statement. -/
import Derived.Test.YthbainbgimbjeaaDoorDraw
import Derived.Test.YthbainbgimbjeaaDoorZ1
import Derived.Test.YthbainbgimbjeaaDoorSpread0
import Derived.Maps.AppendAt
import Derived.RegionTactic
namespace Go.Proofs.YthbainbgimbjeaaDoor
open Go.RowKit Go.ChangeShapes Go.WideShapes Go.ChangeAt Go.Deep

theorem lots_news {W : World} {ad : Addr} {xs : List Lot} (hA : LotsAt W (some ad) xs) : ∀ j u, (lotCells xs)[j]? = some u → W.cell? (ad.add j) = some u := by
  intro j u hu
  have hj : j < xs.length * 2 := by have := (List.getElem?_eq_some_iff.1 hu).1; rwa [lotCells_len] at this
  have hx := List.getElem?_eq_getElem (show j / 2 < xs.length by omega)
  obtain ⟨b, off, e, _, h1, h2⟩ := hA _ _ hx
  injection e with e
  subst e
  have hc := lotCells_at hx
  rw [add_plain]
  rcases (by omega : j = j / 2 * 2 ∨ j = j / 2 * 2 + 1) with e | e
  · rw [e] at hu ⊢
    rw [hc.1] at hu
    rw [h1, hu]
  · rw [e] at hu ⊢
    rw [hc.2] at hu
    rw [show off + (j / 2 * 2 + 1) = off + j / 2 * 2 + 1 from by omega, h2, hu]

theorem lotCells_one {xs : List Lot} : ∀ u ∈ lotCells xs, u.oneCell' = true := by
  intro u hu
  obtain ⟨p, _, h⟩ := List.mem_flatMap.1 hu
  simp only [List.mem_cons, List.not_mem_nil, or_false] at h
  rcases h with rfl | rfl <;> rfl

theorem LotsAt.tail {w : World} {g off : Nat} {x : Lot} {r : List Lot} (h : LotsAt w (some ⟨g, off, none⟩) (x :: r)) : LotsAt w (some ⟨g, off + 2, none⟩) r := by
  intro i p hp
  obtain ⟨b, o, e, hlt, h1, h2⟩ := h (i + 1) p (by simpa using hp)
  injection e with e
  injection e with e1 e2
  subst e1 e2
  exact ⟨g, off + 2, rfl, hlt, by rw [show off + 2 + i * 2 = off + (i + 1) * 2 from by omega]; exact h1, by rw [show off + 2 + i * 2 + 1 = off + (i + 1) * 2 + 1 from by omega]; exact h2⟩
theorem LotsAt.nil (w : World) (A : Option Addr) : LotsAt w A [] := fun i p hp => by simp at hp
theorem rd_grown {w w' : World} {b n : Nat} {row : Option Nat} (hR : Rd w b n) (hg : w.grownBy w' row) (hr : ∀ k, row = some k → b < k) : Rd w' b n :=
  hR.kept fun j hj => hg.block j (by have := hR.lt; omega) (fun e => by have := hr j e.symm; omega)
theorem grown_row {w wr w' : World} {b : Nat} {row : Option Nat} (h : w.grownBy wr (some b)) (hg : wr.grownBy w' row) (hr : ∀ k, row = some k → w.heap.size ≤ k) : w.grownBy w' (some b) :=
  ⟨hg.os.trans h.os, hg.tape.trans h.tape, hg.output.trans h.output, Nat.le_trans h.size hg.size, fun j hj hne =>
    (hg.block j (Nat.lt_of_lt_of_le hj h.size) (fun e => by have := hr j e.symm; omega)).trans (h.block j hj hne)⟩
theorem IntSl.pick {w w' : World} {lo b : Nat} {v : Value} {l : List Int} (h : IntSl w lo v l) (hb : b < lo) (hg : w.grownBy w' (some b)) : IntSl w' lo v l := World.ownsRow.kept h hg (by
  cases e : v.ownBlock with
  | none => exact .inl rfl
  | some k => exact .inr (fun e' => by injection e' with e'; have := (World.ownsRow.lt h k e).1; omega))
theorem IntSl.cap {w : World} {lo n c g : Nat} {l : List Int} (h : IntSl w lo (.slice (some ⟨g, 0, none⟩) n c) l) : l.length = n ∧ n ≤ c ∧ c ≤ maxLen ∧ lo ≤ g ∧ g < w.heap.size := by
  have hlt := World.ownsRow.lt h g rfl
  rcases h.2 with ⟨hv, _⟩ | ⟨g', cap, cur, hv, _, _, h1, h2, _⟩
  · cases hv
  · injection hv with e1 e2 e3
    subst e2 e3
    exact ⟨rfl, h1, h2, hlt.1, hlt.2⟩
end Go.Proofs.YthbainbgimbjeaaDoor
