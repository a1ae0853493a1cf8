/- Small things that the exact laws' walks use: boxes of two cells, bounds of sizes.
   Conditions: none. -/
import Derived.Test.YtmepnilnlpoodaaDoorRead2
import Derived.Test.YtmepnilnlpoodaaDoorMark
import Derived.Test.YtmepnilnlpoodaaDoorPrices
namespace Go.Proofs.YtmepnilnlpoodaaDoor
open Go.RowKit Go.ChangeShapes Go.WideShapes Go.ChangeAt

theorem szGo_le : ∀ (l : List Item) (left : Int), 0 ≤ szGo left l → ∀ x ∈ l, (x.parts.length : Int) ≤ left
  | [], _, _, x, hx => by simp at hx
  | y :: r, left, h, x, hx => by
    unfold szGo at h
    split at h
    · omega
    · rcases List.mem_cons.1 hx with rfl | hx
      · omega
      · have := szGo_le r _ h x hx
        omega

theorem szL_le {l : List Item} (h : ¬ szL 1048576 l < 0) : l.length ≤ 1048576 ∧ ∀ x ∈ l, x.parts.length ≤ 1048576 := by
  unfold szL at h
  split at h
  · omega
  · refine ⟨by omega, fun x hx => ?_⟩
    have := szGo_le l (1048576 - l.length) (by omega) x hx
    omega

theorem szGo_top : ∀ (l : List Item) (left : Int), left ≤ 1048576 → szGo left l ≤ 1048576
  | [], _, h => h
  | x :: r, left, h => by
    unfold szGo
    split
    · omega
    · exact szGo_top r _ (by omega)

theorem szL_top (l : List Item) : szL 1048576 l ≤ 1048576 := by
  unfold szL
  split
  · omega
  · exact szGo_top _ _ (by omega)

theorem box_keep {w w' : World} {b : Nat} {u v : Value} (h : w.cell? ⟨b, 0, none⟩ = some u ∧ w.cell? ⟨b, 1, none⟩ = some v ∧ b < w.heap.size) (hB : Below w.heap.size w w') :
    w'.cell? ⟨b, 0, none⟩ = some u ∧ w'.cell? ⟨b, 1, none⟩ = some v ∧ b < w'.heap.size :=
  ⟨(hB.cell h.2.2).trans h.1, (hB.cell h.2.2).trans h.2.1, Nat.lt_of_lt_of_le h.2.2 hB.size⟩

theorem box_drew {w : World} {b : Nat} {u v : Value} (h : w.cell? ⟨b, 0, none⟩ = some u ∧ w.cell? ⟨b, 1, none⟩ = some v ∧ b < w.heap.size) :
    w.drew.cell? ⟨b, 0, none⟩ = some u ∧ w.drew.cell? ⟨b, 1, none⟩ = some v ∧ b < w.drew.heap.size := h
end Go.Proofs.YtmepnilnlpoodaaDoor
