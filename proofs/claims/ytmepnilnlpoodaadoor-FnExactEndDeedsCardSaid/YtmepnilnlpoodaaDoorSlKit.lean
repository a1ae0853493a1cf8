/- Slices of numbers that a call owns: read, and kept by writes elsewhere.
   Conditions: none. -/
import Derived.Test.YtmepnilnlpoodaaDoorFree
namespace Go.Proofs.YtmepnilnlpoodaaDoor
open Go.RowKit

theorem IntSl.ints {w : World} {lo n c : Nat} {A : Option Addr} {xs : List Int} (h : IntSl w lo (.slice A n c) xs) : IntsAt w A xs := by
  obtain ⟨A', c', e, hI, _⟩ := h.form
  injection e with e
  rw [e]
  exact hI

theorem IntSl.row {w w' : World} {lo : Nat} {v : Value} {xs : List Int} {q : Option Nat} (h : IntSl w lo v xs) (hg : w.grownBy w' q) (hne : v.ownBlock = none ∨ v.ownBlock ≠ q) : IntSl w' lo v xs := World.ownsRow.kept h hg hne

end Go.Proofs.YtmepnilnlpoodaaDoor
