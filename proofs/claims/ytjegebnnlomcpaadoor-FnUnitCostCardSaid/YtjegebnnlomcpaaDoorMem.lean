/- Contracts of the helpers of the exact laws that read, copy and compare parts and items.
   Conditions: none but the bounds in each statement. -/
import Derived.Test.YtjegebnnlomcpaaDoorProg
import Derived.WalkKit
import Derived.BigQuiet
import Derived.Deep.QuietTactic
import Derived.Outline
import Derived.Handy
import Derived.Deep.RegionHeld3
import Derived.Deep.OwnRows
namespace Go.Proofs.YtjegebnnlomcpaaDoor
open Go.RowKit

theorem hide {p : Prop} (h : p) : Hid p := h

structure Part where
  of : Int
  many : Int

structure Item where
  yield : Int
  parts : List Part
  marks : Int

def PartsAt (w : World) (A : Option Addr) (ps : List Part) : Prop :=
  ∀ i p, ps[i]? = some p → ∃ b off, A = some ⟨b, off, none⟩ ∧ b < w.heap.size ∧ w.cell? ⟨b, off + i * 2, none⟩ = some (.int .i64 p.of) ∧ w.cell? ⟨b, off + i * 2 + 1, none⟩ = some (.int .i64 p.many)

theorem PartsAt.below {w w' : World} {A : Option Addr} {ps : List Part} (h : PartsAt w A ps) (hb : Below w.heap.size w w') : PartsAt w' A ps := by
  intro i p hp
  obtain ⟨b, off, e, hlt, h1, h2⟩ := h i p hp
  exact ⟨b, off, e, Nat.lt_of_lt_of_le hlt hb.size, (hb.cell hlt).trans h1, (hb.cell hlt).trans h2⟩


def partCell (ps : List Part) (j : Nat) : Value :=
  match ps[j / 2]? with
  | some p => if j % 2 = 0 then .int .i64 p.of else .int .i64 p.many
  | none => .int .i64 0

theorem partCell_even {ps : List Part} {i : Nat} {p : Part} (h : ps[i]? = some p) : partCell ps (i * 2) = .int .i64 p.of := by
  unfold partCell; rw [show i * 2 / 2 = i from by omega, h]; simp
theorem partCell_odd {ps : List Part} {i : Nat} {p : Part} (h : ps[i]? = some p) : partCell ps (i * 2 + 1) = .int .i64 p.many := by
  unfold partCell; rw [show (i * 2 + 1) / 2 = i from by omega, h]; simp

/-- Block g is the call's own row of the parts. -/
def OwnParts (w : World) (g : Nat) (ps : List Part) : Prop := w.rowIs g 52 (ps.length * 2) (partCell ps)

theorem OwnParts.at_ {w : World} {g : Nat} {ps : List Part} (h : OwnParts w g ps) : PartsAt w (some ⟨g, 0, none⟩) ps := by
  intro i p hp
  have hi : i < ps.length := (List.getElem?_eq_some_iff.1 hp).1
  refine ⟨g, 0, rfl, h.lt, ?_, ?_⟩
  · rw [← partCell_even hp, Nat.zero_add]; exact h.cell (by omega)
  · rw [← partCell_odd hp, Nat.zero_add]; exact h.cell (by omega)

theorem next {w wr W' : World} (h : Below w.heap.size w wr) (k : Below wr.heap.size wr W') : Below w.heap.size w W' := h.trans (k.mono h.size)

theorem info73 : (Tryd.prog.info? 52).map (fun i => (i.zero, i.size, i.bytes)) = some (some (.agg #[.int .i64 0, .int .i64 0]), 2, 16) := by kernel_rfl

theorem made2 (n : Nat) (i : Nat) (hi : i < n * 2) : (madeCells #[.int .i64 0, .int .i64 0] (n * 2))[i]? = some (.int .i64 0) := by
  have : i % 2 = 0 ∨ i % 2 = 1 := by omega
  rcases this with h | h <;> simp [madeCells, hi, h]

theorem make_parts (n : Nat) (hn : n ≤ 1048576) (w : World) :
    (Instr.makeSlice 37 (.int .i64 (n : Int)) (.int .i64 (n : Int))).run Tryd.prog w = .ok (.slice (some ⟨w.heap.size, 0, none⟩) n n) (w.alloc (.cells (madeCells #[.int .i64 0, .int .i64 0] (n * 2)) 52)) := by
  obtain ⟨i0, hi, hz0, hz1, hz2⟩ := info_parts info73
  have := run_make (P := Tryd.prog) w 37 52 i0 _ Tryd.underlying37 hi hz0 .i64 .i64 n n (by omega) (by omega) (by rw [hz2]; omega) (by omega)
  simpa [hz1, Value.cells] using this

def ItemsAt (w : World) (A : Option Addr) (l : List Item) : Prop :=
  ∀ i x, l[i]? = some x → ∃ b off A' c, A = some ⟨b, off, none⟩ ∧ b < w.heap.size ∧ w.cell? ⟨b, off + i * 3, none⟩ = some (.int .i64 x.yield) ∧
    w.cell? ⟨b, off + i * 3 + 1, none⟩ = some (.slice A' x.parts.length c) ∧ w.cell? ⟨b, off + i * 3 + 2, none⟩ = some (.int .i64 x.marks) ∧ PartsAt w A' x.parts

theorem ItemsAt.below {w w' : World} {A : Option Addr} {l : List Item} (h : ItemsAt w A l) (hb : Below w.heap.size w w') : ItemsAt w' A l := by
  intro i x hx
  obtain ⟨b, off, A', c, e, hlt, h1, h2, h3, h4⟩ := h i x hx
  exact ⟨b, off, A', c, e, Nat.lt_of_lt_of_le hlt hb.size, (hb.cell hlt).trans h1, (hb.cell hlt).trans h2, (hb.cell hlt).trans h3, h4.below hb⟩

def szP (left : Int) (n : Nat) : Int := if left - n < 0 then -1 else left - n

def szGo : Int → List Item → Int
  | left, [] => left
  | left, x :: r => if left - x.parts.length < 0 then -1 else szGo (left - x.parts.length) r

def szL (left : Int) (l : List Item) : Int := if left - l.length < 0 then -1 else szGo (left - l.length) l

theorem szP_range (left : Int) (n : Nat) (h1 : left ≤ 1048576) : -1 ≤ szP left n ∧ szP left n ≤ 1048576 := by unfold szP; split <;> omega

end Go.Proofs.YtjegebnnlomcpaaDoor
