/- Lists of tasks: contracts of the helpers that measure, copy and compare them, and their reading among a row's arguments.
   Conditions: the bounds in each statement. -/
import Derived.Test.YtgagfaajilbmmaaDoorTables
namespace Go.Proofs.YtgagfaajilbmmaaDoor
open Go.RowKit Go.ChangeShapes Go.WideShapes Go.ChangeAt Go.Deep

structure Task where
  span : Int
  after : List Int

instance : Inhabited Task := ⟨⟨0, []⟩⟩

def TasksAt (w : World) (A : Option Addr) (l : List Task) : Prop :=
  ∀ i x, l[i]? = some x → ∃ b off A' c, A = some ⟨b, off, none⟩ ∧ b < w.heap.size ∧ w.cell? ⟨b, off + i * 2, none⟩ = some (.int .i64 x.span) ∧
    w.cell? ⟨b, off + i * 2 + 1, none⟩ = some (.slice A' x.after.length c) ∧ IntsAt w A' x.after

theorem TasksAt.below {w w' : World} {A : Option Addr} {l : List Task} (h : TasksAt w A l) (hb : Below w.heap.size w w') : TasksAt w' A l := by
  intro i x hx
  obtain ⟨b, off, A', c, e, hlt, h1, h2, h4⟩ := h i x hx
  exact ⟨b, off, A', c, e, Nat.lt_of_lt_of_le hlt hb.size, (hb.cell hlt).trans h1, (hb.cell hlt).trans h2, h4.below hb⟩

def taskCell (G : Nat → Nat) (l : List Task) (j : Nat) : Value :=
  match l[j / 2]? with
  | some x => if j % 2 = 0 then .int .i64 x.span else .slice (some ⟨G (j / 2), 0, none⟩) x.after.length x.after.length
  | none => .int .i64 0

def zeroTask (j : Nat) : Value := if j % 2 = 1 then .slice none 0 0 else .int .i64 0

theorem taskCell0 {G : Nat → Nat} {l : List Task} {i : Nat} {x : Task} (h : l[i]? = some x) : taskCell G l (i * 2) = .int .i64 x.span := by
  unfold taskCell; rw [show i * 2 / 2 = i from by omega, h]; simp
theorem taskCell1 {G : Nat → Nat} {l : List Task} {i : Nat} {x : Task} (h : l[i]? = some x) : taskCell G l (i * 2 + 1) = .slice (some ⟨G i, 0, none⟩) x.after.length x.after.length := by
  unfold taskCell; rw [show (i * 2 + 1) / 2 = i from by omega, h]; simp [show (i * 2 + 1) % 2 = 1 from by omega]
theorem taskCell_congr {G G' : Nat → Nat} {l : List Task} {j : Nat} (h : G (j / 2) = G' (j / 2)) : taskCell G l j = taskCell G' l j := by
  unfold taskCell; rw [h]

/-- Block g is the call's own row of the tasks, the numbers of each in a later block. -/
def OwnTasks (w : World) (g : Nat) (l : List Task) : Prop :=
  ∃ G : Nat → Nat, w.rowIs g 50 (l.length * 2) (taskCell G l) ∧ ∀ i x, l[i]? = some x → g < G i ∧ OwnInts w (G i) x.after

theorem OwnTasks.below {w w' : World} {g : Nat} {l : List Task} (h : OwnTasks w g l) (hb : Below w.heap.size w w') : OwnTasks w' g l := by
  obtain ⟨G, h1, h2⟩ := h
  exact ⟨G, h1.of_block (hb.block _ h1.lt), fun i x hx => ⟨(h2 i x hx).1, (h2 i x hx).2.below hb⟩⟩

theorem OwnTasks.at_ {w : World} {g : Nat} {l : List Task} (h : OwnTasks w g l) : TasksAt w (some ⟨g, 0, none⟩) l := by
  obtain ⟨G, h1, h2⟩ := h
  intro i x hx
  have hi : i < l.length := (List.getElem?_eq_some_iff.1 hx).1
  refine ⟨g, 0, some ⟨G i, 0, none⟩, x.after.length, rfl, h1.lt, ?_, ?_, (h2 i x hx).2.at_⟩
  · rw [← taskCell0 (G := G) hx, Nat.zero_add]; exact h1.cell (by omega)
  · rw [← taskCell1 (G := G) hx, Nat.zero_add]; exact h1.cell (by omega)

theorem infoTask : (Tryd.prog.info? 50).map (fun i => (i.zero, i.size, i.bytes)) = some (some (.agg #[.int .i64 0, .slice none 0 0]), 2, 32) := by kernel_rfl

theorem madeTask (n : Nat) (i : Nat) (hi : i < n * 2) : (madeCells #[.int .i64 0, .slice none 0 0] (n * 2))[i]? = some (zeroTask i) := by
  have : i % 2 = 0 ∨ i % 2 = 1 := by omega
  rcases this with h | h <;> simp [madeCells, zeroTask, hi, h]

theorem make_tasks (n : Nat) (hn : n ≤ 1048576) (w : World) :
    (Instr.makeSlice 43 (.int .i64 (n : Int)) (.int .i64 (n : Int))).run Tryd.prog w = .ok (.slice (some ⟨w.heap.size, 0, none⟩) n n) (w.alloc (.cells (madeCells #[.int .i64 0, .slice none 0 0] (n * 2)) 50)) := by
  obtain ⟨i0, hi, hz0, hz1, hz2⟩ := info_parts infoTask
  have := run_make (P := Tryd.prog) w 43 50 i0 _ Tryd.underlying43 hi hz0 .i64 .i64 n n (by omega) (by omega) (by rw [hz2]; omega) (by omega)
  simpa [hz1, Value.cells] using this

/-- What toTaskS knows after k rounds. -/
def TasksTo (w : World) (g : Nat) (l : List Task) (k : Nat) : Prop :=
  ∃ G : Nat → Nat, w.rowIs g 50 (l.length * 2) (fun j => if j < k * 2 then taskCell G l j else zeroTask j) ∧ ∀ i x, i < k → l[i]? = some x → g < G i ∧ OwnInts w (G i) x.after

theorem TasksTo.below {w w' : World} {g : Nat} {l : List Task} {k : Nat} (h : TasksTo w g l k) (hb : Below w.heap.size w w') : TasksTo w' g l k := by
  obtain ⟨G, h1, h2⟩ := h
  exact ⟨G, h1.of_block (hb.block _ h1.lt), fun i x hk hx => ⟨(h2 i x hk hx).1, (h2 i x hk hx).2.below hb⟩⟩

theorem TasksTo.lt {w : World} {g : Nat} {l : List Task} {k : Nat} (h : TasksTo w g l k) : g < w.heap.size := by
  obtain ⟨G, h1, _⟩ := h; exact h1.lt

theorem TasksTo.cell {w : World} {g : Nat} {l : List Task} {k : Nat} (h : TasksTo w g l k) (j : Nat) (hj : j < l.length * 2) : ∃ v, w.cell? ⟨g, j, none⟩ = some v := by
  obtain ⟨G, h1, _⟩ := h; exact ⟨_, h1.cell hj⟩
theorem TasksTo.frozen {w : World} {g : Nat} {l : List Task} {k : Nat} (h : TasksTo w g l k) (j : Nat) : w.frozen? ⟨g, j, none⟩ = false := by
  obtain ⟨G, h1, _⟩ := h; exact h1.frozen j

theorem TasksTo.step {w : World} {g g' : Nat} {l : List Task} {k : Nat} {x : Task} (h : TasksTo w g l k) (hx : l[k]? = some x) (hg : g < g') (hO : OwnInts w g' x.after) :
    TasksTo ((w.setCell ⟨g, k * 2, none⟩ (.int .i64 x.span)).setCell ⟨g, k * 2 + 1, none⟩ (.slice (some ⟨g', 0, none⟩) x.after.length x.after.length)) g l (k + 1) := by
  obtain ⟨G, h1, h2⟩ := h
  refine ⟨fun i => if i = k then g' else G i, (((h1.set (k * 2) _).set (k * 2 + 1) _).congr fun j hj => ?_), fun i y hi hy => ?_⟩
  · by_cases e0 : j = k * 2
    · subst e0
      rw [if_neg (by omega), if_pos rfl, if_pos (by omega), taskCell0 hx]
    · by_cases e1 : j = k * 2 + 1
      · subst e1
        rw [if_pos rfl, if_pos (by omega), taskCell1 hx, if_pos rfl]
      · rw [if_neg e1, if_neg e0]
        by_cases e : j < k * 2
        · rw [if_pos e, if_pos (by omega)]
          exact taskCell_congr (by rw [if_neg (by omega)])
        · rw [if_neg e, if_neg (by omega)]
  · by_cases e : i = k
    · subst e
      obtain rfl : y = x := by rw [hx] at hy; injection hy with hy; exact hy.symm
      simp only [if_pos]
      exact ⟨hg, (hO.far (by simp; omega) _).far (by simp; omega) _⟩
    · obtain ⟨hG, hP⟩ := h2 i y (by omega) hy
      simp only [if_neg e]
      exact ⟨hG, (hP.far (by simp; omega) _).far (by simp; omega) _⟩

theorem TasksTo.all {w : World} {g : Nat} {l : List Task} {k : Nat} (h : TasksTo w g l k) (hk : l.length ≤ k) : OwnTasks w g l := by
  obtain ⟨G, h1, h2⟩ := h
  exact ⟨G, h1.congr fun j hj => if_pos (by omega), fun i x hx => h2 i x (by have := (List.getElem?_eq_some_iff.1 hx).1; omega) hx⟩

/-- What a list of tasks takes of a measure. -/
def szTs (left : Int) (l : List Task) : Int := szRows left (l.map (·.after))

theorem szTs_le {left : Int} {l : List Task} (h1 : left ≤ 1048576) (h : ¬ szTs left l < 0) : l.length ≤ 1048576 ∧ ∀ x ∈ l, x.after.length ≤ 1048576 := by
  have := szRows_le h1 h
  refine ⟨by simpa using this.1, fun x hx => this.2 _ (List.mem_map_of_mem hx)⟩

section
variable {H : Type} {enc : TypeId × Value → H} {w : World} {base : Nat} {spare : Nat → Bool} {held : Bool}

end
end Go.Proofs.YtgagfaajilbmmaaDoor
