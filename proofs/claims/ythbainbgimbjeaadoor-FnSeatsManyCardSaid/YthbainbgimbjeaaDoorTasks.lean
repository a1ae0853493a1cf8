/- Lists of tasks: contracts of the helpers that measure, copy and compare them, and their reading among a row's arguments.
   Conditions: the bounds in each statement. -/
import Derived.Test.YthbainbgimbjeaaDoorZ1
namespace Go.Proofs.YthbainbgimbjeaaDoor
open Go.RowKit Go.ChangeShapes Go.WideShapes Go.ChangeAt Go.Deep

structure Task where
  span : Int
  after : List Int

instance : Inhabited Task := ⟨⟨0, []⟩⟩

def TasksAt (w : World) (A : Option Addr) (l : List Task) : Prop :=
  ∀ i x, l[i]? = some x → ∃ b off A' c, A = some ⟨b, off, none⟩ ∧ b < w.heap.size ∧ w.cell? ⟨b, off + i * 2, none⟩ = some (.int .i64 x.span) ∧
    w.cell? ⟨b, off + i * 2 + 1, none⟩ = some (.slice A' x.after.length c) ∧ IntsAt w A' x.after

theorem TasksAt.below {w w' : World} {A : Option Addr} {l : List Task} (h : TasksAt w A l) (hb : Below w.heap.size w w') : TasksAt w' A l := by
  intro i x hx
  obtain ⟨b, off, A', c, e, hlt, h1, h2, h4⟩ := h i x hx
  exact ⟨b, off, A', c, e, Nat.lt_of_lt_of_le hlt hb.size, (hb.cell hlt).trans h1, (hb.cell hlt).trans h2, h4.below hb⟩

def taskCell (G : Nat → Nat) (l : List Task) (j : Nat) : Value :=
  match l[j / 2]? with
  | some x => if j % 2 = 0 then .int .i64 x.span else .slice (some ⟨G (j / 2), 0, none⟩) x.after.length x.after.length
  | none => .int .i64 0

def zeroTask (j : Nat) : Value := if j % 2 = 1 then .slice none 0 0 else .int .i64 0

theorem taskCell0 {G : Nat → Nat} {l : List Task} {i : Nat} {x : Task} (h : l[i]? = some x) : taskCell G l (i * 2) = .int .i64 x.span := by
  unfold taskCell; rw [show i * 2 / 2 = i from by omega, h]; simp
theorem taskCell1 {G : Nat → Nat} {l : List Task} {i : Nat} {x : Task} (h : l[i]? = some x) : taskCell G l (i * 2 + 1) = .slice (some ⟨G i, 0, none⟩) x.after.length x.after.length := by
  unfold taskCell; rw [show (i * 2 + 1) / 2 = i from by omega, h]; simp [show (i * 2 + 1) % 2 = 1 from by omega]
theorem taskCell_congr {G G' : Nat → Nat} {l : List Task} {j : Nat} (h : G (j / 2) = G' (j / 2)) : taskCell G l j = taskCell G' l j := by
  unfold taskCell; rw [h]

theorem madeTask (n : Nat) (i : Nat) (hi : i < n * 2) : (madeCells #[.int .i64 0, .slice none 0 0] (n * 2))[i]? = some (zeroTask i) := by
  have : i % 2 = 0 ∨ i % 2 = 1 := by omega
  rcases this with h | h <;> simp [madeCells, zeroTask, hi, h]

/-- What a list of tasks takes of a measure. -/
def szTs (left : Int) (l : List Task) : Int := szRows left (l.map (·.after))

theorem szTs_le {left : Int} {l : List Task} (h1 : left ≤ 1048576) (h : ¬ szTs left l < 0) : l.length ≤ 1048576 ∧ ∀ x ∈ l, x.after.length ≤ 1048576 := by
  have := szRows_le h1 h
  refine ⟨by simpa using this.1, fun x hx => this.2 _ (List.mem_map_of_mem hx)⟩

section
variable {H : Type} {enc : TypeId × Value → H} {w : World} {base : Nat} {spare : Nat → Bool} {held : Bool}

end
end Go.Proofs.YthbainbgimbjeaaDoor
