/- What the promises' laws share: the drawn bytes as an argument, a start that lays the listed tables, the end of a law that answers true.
   Conditions: none. -/
import Derived.Test.YtaelapimchmbcaaDoorDraw
import Derived.Test.YtaelapimchmbcaaDoorRead
import Derived.Test.YtaelapimchmbcaaDoorTie
import Derived.Test.YtaelapimchmbcaaDoorCards
import Derived.ChangeVars
import Derived.LaidLaws
import Derived.Lay
import Derived.SevenTiedAt
import Derived.JoinedAt
namespace Go.Proofs.YtaelapimchmbcaaDoor
open Go.RowKit Go.ChangeShapes Go.WideShapes Go.ChangeAt Go.Deep

section
variable {H : Type} {enc : TypeId × Value → H} {w : World} {base : Nat} {spare : Nat → Bool} {held : Bool}

theorem open_bytes {fuel : Nat} {cs : List Value} {x : DataW H × List MemPlace} (h : DataW.trod enc Tryd.prog w base spare held fuel 22 cs = some x) :
    ∃ A c m, cs = [.slice A m c] ∧ BytesIn w A m ∧ m ≤ c ∧ c ≤ 9223372036854775807 := by
  rcases open_slice Tryd.underlying22 h with ⟨rfl, _⟩ | ⟨a, len, cap, m, n, D, Pl, rfl, _, hl, hm, hmm, _, hi⟩
  · exact ⟨none, 0, 0, rfl, fun i hi => absurd hi (by omega), Nat.le_refl _, by omega⟩
  · have hlm : len ≤ m := by rw [hmm]; split <;> omega
    have hcells : Tryd.prog.cellsOf 5 = 1 := by kernel_rfl
    rw [hcells] at hi
    have hat : ∀ i, i < len → ∃ v : Int, 0 ≤ v ∧ v ≤ 255 ∧ w.cell? (a.add i) = some (.int .u8 v) := fun i hil => by
      obtain ⟨cs', hc, ht⟩ := hi i (by omega)
      obtain ⟨_, _, hat⟩ := World.cells?_some hc
      obtain ⟨u, hu, _, hwf⟩ := DataW.trod_int Tryd.underlying5 ht
      have e0 := hat 0 (by omega)
      rw [Go.Deep.add_add, hu] at e0
      have e1 : IntKind.u8.min = 0 := rfl
      have e2 : IntKind.u8.max = 255 := rfl
      simp only [Lit.wf, e1, e2, Bool.and_eq_true, decide_eq_true_eq] at hwf
      exact ⟨u, hwf.1, hwf.2, by simpa using e0⟩
    refine ⟨some a, cap, len, rfl, fun i hil => ?_, hl, by unfold maxLen at hm; omega⟩
    obtain ⟨v, h0, h1, hv⟩ := hat i hil
    obtain ⟨_, _, _, hv0⟩ := hat 0 (by omega)
    obtain ⟨b, off, rfl, hadd⟩ := addr_of hv0
    rw [hadd] at hv
    exact ⟨b, off, v, rfl, (cell_lt hv).1, h0, h1, hv⟩
end

def laid3 : List (String × DataW Unit) := [("math/bits.deBruijn32tab", Rows.laid_math_bits_deBruijn32tab), ("math/bits.deBruijn64tab", Rows.laid_math_bits_deBruijn64tab), ("internal/strconv.uint64pow10", Rows.laid_internal_strconv_uint64pow10)]

/-- The start that lays the listed tables, for a law over one []uint8. -/
noncomputable abbrev start3 (os : Os) : World := (World.laidAll Tryd.prog os laid3).forCall (fun _ _ => 0) ⟨#[], #[.slice none 0 0], []⟩
set_option maxRecDepth 100000 in
theorem start3_shaped (os : Os) : (start3 os).Shaped Tryd.prog := World.shaped_of_ZipB (by kernel_rfl) (by kernel_rfl)
set_option maxRecDepth 100000 in
theorem start3_met (os : Os) : laidMet Tryd.prog laid3 (start3 os).memory := laidMet_laidAll _ (by kernel_rfl) (by kernel_rfl)
end Go.Proofs.YtaelapimchmbcaaDoor
