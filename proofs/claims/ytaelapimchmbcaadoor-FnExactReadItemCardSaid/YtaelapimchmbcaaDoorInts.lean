/- Contracts of the helpers that read, copy and compare lists of numbers and plans, and of allInRange.
   Conditions: the bounds in each statement. -/
import Derived.Test.YtaelapimchmbcaaDoorValid
namespace Go.Proofs.YtaelapimchmbcaaDoor
open Go.RowKit

def IntsAt (w : World) (A : Option Addr) (xs : List Int) : Prop :=
  ∀ i x, xs[i]? = some x → ∃ b off, A = some ⟨b, off, none⟩ ∧ b < w.heap.size ∧ w.cell? ⟨b, off + i, none⟩ = some (.int .i64 x)

theorem IntsAt.below {w w' : World} {A : Option Addr} {xs : List Int} (h : IntsAt w A xs) (hb : Below w.heap.size w w') : IntsAt w' A xs := by
  intro i x hx
  obtain ⟨b, off, e, hlt, h1⟩ := h i x hx
  exact ⟨b, off, e, Nat.lt_of_lt_of_le hlt hb.size, (hb.cell hlt).trans h1⟩

/-- Block g is the call's own row of the numbers. -/
def OwnInts (w : World) (g : Nat) (xs : List Int) : Prop := w.rowIs g 3 xs.length (fun j => .int .i64 (xs.getD j 0))

theorem OwnInts.below {w w' : World} {g : Nat} {xs : List Int} (h : OwnInts w g xs) (hb : Below w.heap.size w w') : OwnInts w' g xs := World.rowIs.of_block h (hb.block _ (World.rowIs.lt h))
theorem OwnInts.far {w : World} {g : Nat} {xs : List Int} (h : OwnInts w g xs) {a : Addr} (ha : g ≠ a.block) (v : Value) : OwnInts (w.setCell a v) g xs := World.rowIs.setOther h ha v

theorem OwnInts.at_ {w : World} {g : Nat} {xs : List Int} (h : OwnInts w g xs) : IntsAt w (some ⟨g, 0, none⟩) xs := by
  intro i x hx
  have hi : i < xs.length := (List.getElem?_eq_some_iff.1 hx).1
  refine ⟨g, 0, rfl, World.rowIs.lt h, ?_⟩
  rw [Nat.zero_add, World.rowIs.cell h hi]
  simp [hx]

theorem make_ints (n : Nat) (hn : n ≤ 1048576) (w : World) :
    (Instr.makeSlice 62 (.int .i64 (n : Int)) (.int .i64 (n : Int))).run Tryd.prog w = .ok (.slice (some ⟨w.heap.size, 0, none⟩) n n) (w.alloc (.cells (madeCells #[.int .i64 0] n) 3)) :=
  run_make_row' 62 3 (.int .i64 0) 8 Tryd.underlying62 (by kernel_rfl) rfl .i64 .i64 n (by omega) (by omega) w

def szPl (left : Int) (n m : Nat) : Int := if szP left n < 0 then -1 else szP (szP left n) m

theorem szP_neg {left : Int} {n : Nat} (h : szP left n < 0) : szP left n = -1 := by unfold szP at h ⊢; split <;> simp_all
theorem szPl_range (left : Int) (n m : Nat) (h1 : left ≤ 1048576) : -1 ≤ szPl left n m ∧ szPl left n m ≤ 1048576 := by
  unfold szPl
  split
  · omega
  · have := szP_range left n h1
    exact szP_range _ m (by omega)
theorem szP_le {left : Int} {n : Nat} (h : ¬ szP left n < 0) : (n : Int) ≤ left := by unfold szP at h; split at h <;> omega
theorem szPl_le {left : Int} {n m : Nat} (h1 : left ≤ 1048576) (h : ¬ szPl left n m < 0) : n ≤ 1048576 ∧ m ≤ 1048576 := by
  unfold szPl at h
  split at h
  · omega
  · rename_i h2
    have a := szP_le h2
    have b := szP_le h
    have := szP_range left n h1
    omega

def rangeOk (most : Int) (xs : List Int) : Bool := xs.all (fun x => inR x 0 most)

end Go.Proofs.YtaelapimchmbcaaDoor
