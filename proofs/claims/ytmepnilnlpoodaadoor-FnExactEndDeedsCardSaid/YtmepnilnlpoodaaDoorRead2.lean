/- The reading of numbers, lists of numbers and plans among a row's arguments.
   Conditions: none. -/
import Derived.Test.YtmepnilnlpoodaaDoorRead
import Derived.Test.YtmepnilnlpoodaaDoorInts
import Derived.Lib.SmallJoins
namespace Go.Proofs.YtmepnilnlpoodaaDoor
open Go.RowKit Go.ChangeShapes Go.WideShapes Go.ChangeAt Go.Deep

section
variable {H : Type} {enc : TypeId × Value → H} {w : World} {base : Nat} {spare : Nat → Bool} {held : Bool}

theorem open_numbers {fuel : Nat} {cs : List Value} {x : DataW H × List MemPlace} (h : DataW.trod enc Tryd.prog w base spare held fuel 23 cs = some x) :
    ∃ A c xs, cs = [.slice A xs.length c] ∧ IntsAt w A xs ∧ xs.length ≤ 9223372036854775807 := by
  rcases open_slice Tryd.underlying23 h with ⟨rfl, _⟩ | ⟨a, len, cap, m, n, D, Pl, rfl, _, hl, hm, hmm, _, hi⟩
  · exact ⟨none, 0, [], rfl, fun i p hp => by simp at hp, by simp⟩
  · have hlm : len ≤ m := by rw [hmm]; split <;> omega
    have hcells : Tryd.prog.cellsOf 3 = 1 := by kernel_rfl
    rw [hcells] at hi
    obtain ⟨f, hf⟩ := choose_lt (α := Int) (n := len) (p := fun i p => w.cell? (a.add i) = some (.int .i64 p)) (fun i hil => by
      obtain ⟨cs', hc, ht⟩ := hi i (by omega)
      obtain ⟨_, _, hat⟩ := World.cells?_some hc
      obtain ⟨u, hu, _⟩ := DataW.trod_int Tryd.underlying3 ht
      have e0 := hat 0 (by omega)
      rw [Go.Deep.add_add, hu] at e0
      exact ⟨u, by simpa using e0⟩)
    refine ⟨some a, cap, (List.range len).map f, by simp, fun i p hp => ?_, by simp only [List.length_map, List.length_range]; unfold maxLen at hm; omega⟩
    have hil : i < len := by have := (List.getElem?_eq_some_iff.1 hp).1; simpa using this
    have hpe : f i = p := by simpa [hil] using hp
    have g0 := hf i hil
    rw [hpe] at g0
    obtain ⟨b, off, rfl, hadd⟩ := addr_of (hf 0 (by omega))
    rw [hadd] at g0
    exact ⟨b, off, rfl, (cell_lt g0).1, g0⟩

end
end Go.Proofs.YtmepnilnlpoodaaDoor
