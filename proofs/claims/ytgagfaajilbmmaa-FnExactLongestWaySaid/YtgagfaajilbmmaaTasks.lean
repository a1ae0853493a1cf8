/- Lists of tasks: contracts of the helpers that measure, copy and compare them, and their reading among a row's arguments.
   Conditions: the bounds in each statement. -/
import Derived.Test.YtgagfaajilbmmaaTables
namespace Go.Proofs.Ytgagfaajilbmmaa
open Go.RowKit Go.ChangeShapes Go.WideShapes Go.ChangeAt Go.Deep

structure Task where
  span : Int
  after : List Int

instance : Inhabited Task := ⟨⟨0, []⟩⟩

def TasksAt (w : World) (A : Option Addr) (l : List Task) : Prop :=
  ∀ i x, l[i]? = some x → ∃ b off A' c, A = some ⟨b, off, none⟩ ∧ b < w.heap.size ∧ w.cell? ⟨b, off + i * 2, none⟩ = some (.int .i64 x.span) ∧
    w.cell? ⟨b, off + i * 2 + 1, none⟩ = some (.slice A' x.after.length c) ∧ IntsAt w A' x.after

theorem TasksAt.below {w w' : World} {A : Option Addr} {l : List Task} (h : TasksAt w A l) (hb : Below w.heap.size w w') : TasksAt w' A l := by
  intro i x hx
  obtain ⟨b, off, A', c, e, hlt, h1, h2, h4⟩ := h i x hx
  exact ⟨b, off, A', c, e, Nat.lt_of_lt_of_le hlt hb.size, (hb.cell hlt).trans h1, (hb.cell hlt).trans h2, h4.below hb⟩

def taskCell (G : Nat → Nat) (l : List Task) (j : Nat) : Value :=
  match l[j / 2]? with
  | some x => if j % 2 = 0 then .int .i64 x.span else .slice (some ⟨G (j / 2), 0, none⟩) x.after.length x.after.length
  | none => .int .i64 0

def zeroTask (j : Nat) : Value := if j % 2 = 1 then .slice none 0 0 else .int .i64 0

theorem taskCell0 {G : Nat → Nat} {l : List Task} {i : Nat} {x : Task} (h : l[i]? = some x) : taskCell G l (i * 2) = .int .i64 x.span := by
  unfold taskCell; rw [show i * 2 / 2 = i from by omega, h]; simp
theorem taskCell1 {G : Nat → Nat} {l : List Task} {i : Nat} {x : Task} (h : l[i]? = some x) : taskCell G l (i * 2 + 1) = .slice (some ⟨G i, 0, none⟩) x.after.length x.after.length := by
  unfold taskCell; rw [show (i * 2 + 1) / 2 = i from by omega, h]; simp [show (i * 2 + 1) % 2 = 1 from by omega]
theorem taskCell_congr {G G' : Nat → Nat} {l : List Task} {j : Nat} (h : G (j / 2) = G' (j / 2)) : taskCell G l j = taskCell G' l j := by
  unfold taskCell; rw [h]

/-- Block g is the call's own row of the tasks, the numbers of each in a later block. -/
def OwnTasks (w : World) (g : Nat) (l : List Task) : Prop :=
  ∃ G : Nat → Nat, w.rowIs g 68 (l.length * 2) (taskCell G l) ∧ ∀ i x, l[i]? = some x → g < G i ∧ OwnInts w (G i) x.after

theorem OwnTasks.below {w w' : World} {g : Nat} {l : List Task} (h : OwnTasks w g l) (hb : Below w.heap.size w w') : OwnTasks w' g l := by
  obtain ⟨G, h1, h2⟩ := h
  exact ⟨G, h1.of_block (hb.block _ h1.lt), fun i x hx => ⟨(h2 i x hx).1, (h2 i x hx).2.below hb⟩⟩

theorem OwnTasks.at_ {w : World} {g : Nat} {l : List Task} (h : OwnTasks w g l) : TasksAt w (some ⟨g, 0, none⟩) l := by
  obtain ⟨G, h1, h2⟩ := h
  intro i x hx
  have hi : i < l.length := (List.getElem?_eq_some_iff.1 hx).1
  refine ⟨g, 0, some ⟨G i, 0, none⟩, x.after.length, rfl, h1.lt, ?_, ?_, (h2 i x hx).2.at_⟩
  · rw [← taskCell0 (G := G) hx, Nat.zero_add]; exact h1.cell (by omega)
  · rw [← taskCell1 (G := G) hx, Nat.zero_add]; exact h1.cell (by omega)

set_option maxHeartbeats 400000 in
theorem toTask_any (A : Option Addr) (c : Nat) (y : Int) (ps : List Int) (w : World) (h1 : IntsAt w A ps) (hl : ps.length ≤ 1048576) :
    Calls Try.prog 39 #[.agg #[.int .i64 y, .slice A ps.length c]] w fun e w' => e = .returned (.agg #[.int .i64 y, .slice (some ⟨w.heap.size + 3, 0, none⟩) ps.length ps.length]) ∧
      OwnInts w' (w.heap.size + 3) ps ∧ Below w.heap.size w w' := by
  go_enter Try.func39, Try.ntmps39
  go_wp2_with fail
  refine (toIntS_any _ _ _ _ (h1.below (by go_grown)) hl).mono ?_
  rintro e w' ⟨rfl, hO, hB⟩
  have hsz := hB.size
  simp only [World.size_alloc] at hsz hO hB
  have hb2 : Below w.heap.size w w' := Below.trans (by go_grown) (hB.mono (by omega))
  have hsz2 := hb2.size
  have hc : ∀ b o, b < w.heap.size + 3 → w'.cell? ⟨b, o, none⟩ = _ := fun b o hb => hB.cell (p := ⟨b, o, none⟩) hb
  have hf : ∀ b o, b < w.heap.size + 3 → w'.frozen? ⟨b, o, none⟩ = _ := fun b o hb => hB.frozen (p := ⟨b, o, none⟩) hb
  go_wp2_with fail
  refine bodyPost_ret (v := .agg #[.int .i64 y, .slice (some ⟨w.heap.size + 3, 0, none⟩) ps.length ps.length]) (by simp [results, Try.results39, go_sem, hc]) rfl ⟨rfl, ?_, by go_grown⟩
  exact ((hO.far (Nat.ne_of_gt (by simp)) _).far (Nat.ne_of_gt (by simp)) _).far (Nat.ne_of_gt (by simp)) _

theorem infoTask : (Try.prog.info? 68).map (fun i => (i.zero, i.size, i.bytes)) = some (some (.agg #[.int .i64 0, .slice none 0 0]), 2, 32) := by kernel_rfl

theorem madeTask (n : Nat) (i : Nat) (hi : i < n * 2) : (madeCells #[.int .i64 0, .slice none 0 0] (n * 2))[i]? = some (zeroTask i) := by
  have : i % 2 = 0 ∨ i % 2 = 1 := by omega
  rcases this with h | h <;> simp [madeCells, zeroTask, hi, h]

theorem make_tasks (n : Nat) (hn : n ≤ 1048576) (w : World) :
    (Instr.makeSlice 39 (.int .i64 (n : Int)) (.int .i64 (n : Int))).run Try.prog w = .ok (.slice (some ⟨w.heap.size, 0, none⟩) n n) (w.alloc (.cells (madeCells #[.int .i64 0, .slice none 0 0] (n * 2)) 68)) := by
  obtain ⟨i0, hi, hz0, hz1, hz2⟩ := info_parts infoTask
  have := run_make (P := Try.prog) w 39 68 i0 _ Try.underlying39 hi hz0 .i64 .i64 n n (by omega) (by omega) (by rw [hz2]; omega) (by omega)
  simpa [hz1, Value.cells] using this

/-- What toTaskS knows after k rounds. -/
def TasksTo (w : World) (g : Nat) (l : List Task) (k : Nat) : Prop :=
  ∃ G : Nat → Nat, w.rowIs g 68 (l.length * 2) (fun j => if j < k * 2 then taskCell G l j else zeroTask j) ∧ ∀ i x, i < k → l[i]? = some x → g < G i ∧ OwnInts w (G i) x.after

theorem TasksTo.below {w w' : World} {g : Nat} {l : List Task} {k : Nat} (h : TasksTo w g l k) (hb : Below w.heap.size w w') : TasksTo w' g l k := by
  obtain ⟨G, h1, h2⟩ := h
  exact ⟨G, h1.of_block (hb.block _ h1.lt), fun i x hk hx => ⟨(h2 i x hk hx).1, (h2 i x hk hx).2.below hb⟩⟩

theorem TasksTo.lt {w : World} {g : Nat} {l : List Task} {k : Nat} (h : TasksTo w g l k) : g < w.heap.size := by
  obtain ⟨G, h1, _⟩ := h; exact h1.lt

theorem TasksTo.cell {w : World} {g : Nat} {l : List Task} {k : Nat} (h : TasksTo w g l k) (j : Nat) (hj : j < l.length * 2) : ∃ v, w.cell? ⟨g, j, none⟩ = some v := by
  obtain ⟨G, h1, _⟩ := h; exact ⟨_, h1.cell hj⟩
theorem TasksTo.frozen {w : World} {g : Nat} {l : List Task} {k : Nat} (h : TasksTo w g l k) (j : Nat) : w.frozen? ⟨g, j, none⟩ = false := by
  obtain ⟨G, h1, _⟩ := h; exact h1.frozen j

theorem TasksTo.step {w : World} {g g' : Nat} {l : List Task} {k : Nat} {x : Task} (h : TasksTo w g l k) (hx : l[k]? = some x) (hg : g < g') (hO : OwnInts w g' x.after) :
    TasksTo ((w.setCell ⟨g, k * 2, none⟩ (.int .i64 x.span)).setCell ⟨g, k * 2 + 1, none⟩ (.slice (some ⟨g', 0, none⟩) x.after.length x.after.length)) g l (k + 1) := by
  obtain ⟨G, h1, h2⟩ := h
  refine ⟨fun i => if i = k then g' else G i, (((h1.set (k * 2) _).set (k * 2 + 1) _).congr fun j hj => ?_), fun i y hi hy => ?_⟩
  · by_cases e0 : j = k * 2
    · subst e0
      rw [if_neg (by omega), if_pos rfl, if_pos (by omega), taskCell0 hx]
    · by_cases e1 : j = k * 2 + 1
      · subst e1
        rw [if_pos rfl, if_pos (by omega), taskCell1 hx, if_pos rfl]
      · rw [if_neg e1, if_neg e0]
        by_cases e : j < k * 2
        · rw [if_pos e, if_pos (by omega)]
          exact taskCell_congr (by rw [if_neg (by omega)])
        · rw [if_neg e, if_neg (by omega)]
  · by_cases e : i = k
    · subst e
      obtain rfl : y = x := by rw [hx] at hy; injection hy with hy; exact hy.symm
      simp only [if_pos]
      exact ⟨hg, (hO.far (by simp; omega) _).far (by simp; omega) _⟩
    · obtain ⟨hG, hP⟩ := h2 i y (by omega) hy
      simp only [if_neg e]
      exact ⟨hG, (hP.far (by simp; omega) _).far (by simp; omega) _⟩

theorem TasksTo.all {w : World} {g : Nat} {l : List Task} {k : Nat} (h : TasksTo w g l k) (hk : l.length ≤ k) : OwnTasks w g l := by
  obtain ⟨G, h1, h2⟩ := h
  exact ⟨G, h1.congr fun j hj => if_pos (by omega), fun i x hx => h2 i x (by have := (List.getElem?_eq_some_iff.1 hx).1; omega) hx⟩

set_option maxHeartbeats 400000 in
theorem toTaskS_any (A : Option Addr) (c : Nat) (l : List Task) (w : World) (hA : TasksAt w A l) (hl : l.length ≤ 1048576) (hp : ∀ x ∈ l, x.after.length ≤ 1048576) :
    Calls Try.prog 17 #[.slice A l.length c] w fun e w' => e = .returned (.slice (some ⟨w.heap.size, 0, none⟩) l.length l.length) ∧ OwnTasks w' w.heap.size l ∧ Below w.heap.size w w' := by
  have hmk := make_tasks l.length hl
  have HP := hide hp
  clear hp
  go_enter Try.func17, Try.ntmps17
  go_wp2_with fail
  clear hmk
  go_loopw [4] (fun i wr => ∃ k : Nat, k ≤ l.length ∧ i = .int .i64 k ∧ TasksTo wr w.heap.size l k ∧ Below w.heap.size w wr) (fun i _ => l.length - (intOf i).toNat)
  case atStart => exact ⟨0, Nat.zero_le _, rfl, ⟨fun _ => 0, ⟨_, Deep.blk_alloc_new _ _, size_madeCells _ _, fun i hi => by rw [madeTask _ _ hi]; simp⟩, fun i x hi => absurd hi (by omega)⟩, by go_grown⟩
  case round =>
    obtain ⟨k, hk, rfl, hrow, hb⟩ := hrel
    have hsz := hb.size
    by_cases hlt : k < l.length
    · obtain ⟨b, off, A', c', rfl, hbl, hc1, hc2, hpa⟩ := (hA.below hb) k l[k] (List.getElem?_eq_getElem hlt)
      have HX : Hid (l[k]? = some l[k]) := hide (List.getElem?_eq_getElem hlt)
      have hx : l[k].after.length ≤ 1048576 := HP.out _ (List.getElem_mem hlt)
      generalize l[k] = x at *
      have hz : (0 : Int) ≤ k := by omega
      have hz2 : (k : Int) < l.length := by omega
      go_wp2_with fail
      refine (toTask_any _ _ _ _ _ hpa hx).mono ?_
      rintro e w' ⟨rfl, hO, hB⟩
      have hrow2 := hrow.below hB
      have hlt2 := hrow.lt
      obtain ⟨v1, hq1⟩ := hrow2.cell (k * 2) (by omega)
      obtain ⟨v2, hq2⟩ := hrow2.cell (k * 2 + 1) (by omega)
      have hf := hrow2.frozen
      have hb2 : Below w.heap.size w w' := next hb hB
      have hsz2 := hb2.size
      have HS := hide (hrow2.step HX.out (by omega) hO)
      go_wp2_with fail
      go_roundw
      case rel => exact ⟨k + 1, hlt, by go_num, HS.out, by go_grown⟩
      case measure => simp [intOf]; omega
    · go_wp2_with fail
      go_ret
      exact ⟨rfl, hrow.all (by omega), by go_grown⟩

set_option maxHeartbeats 400000 in
theorem eqTask_same (A A' : Option Addr) (c c' : Nat) (y : Int) (ps : List Int) (w : World) (h1 : IntsAt w A ps) (h2 : IntsAt w A' ps) (hl : ps.length ≤ 1048576) :
    Calls Try.prog 45 #[.agg #[.int .i64 y, .slice A ps.length c], .agg #[.int .i64 y, .slice A' ps.length c']] w fun e w' => e = .returned (.bool true) ∧ Below w.heap.size w w' := by
  have hy : (y != y) = false := by simp
  go_enter Try.func45, Try.ntmps45
  go_wp2_with fail
  refine (eqIntS_same _ _ _ _ _ _ (h1.below (by go_grown)) (h2.below (by go_grown)) hl).mono ?_
  rintro e w' ⟨rfl, hB⟩
  have hb2 : Below w.heap.size w w' := Below.trans (by go_grown) (hB.mono (by simp; omega))
  go_wp2_with fail
  go_ret
  exact ⟨rfl, by go_grown⟩

set_option maxHeartbeats 400000 in
theorem eqTaskS_same (A A' : Option Addr) (c c' : Nat) (l : List Task) (w : World) (h1 : TasksAt w A l) (h2 : TasksAt w A' l) (hl : l.length ≤ 1048576) (hp : ∀ x ∈ l, x.after.length ≤ 1048576) :
    Calls Try.prog 19 #[.slice A l.length c, .slice A' l.length c'] w fun e w' => e = .returned (.bool true) ∧ Below w.heap.size w w' := by
  have he : ((l.length : Int) != l.length) = false := by simp
  have HP := hide hp
  clear hp
  go_enter Try.func19, Try.ntmps19
  go_wp2_with fail
  go_loopw [5] (fun i wr => ∃ k : Nat, k ≤ l.length ∧ i = .int .i64 k ∧ Below w.heap.size w wr) (fun i _ => l.length - (intOf i).toNat)
  case atStart => exact ⟨0, Nat.zero_le _, rfl, Below.refl _ _⟩
  case round =>
    obtain ⟨k, hk, rfl, hb⟩ := hrel
    have hsz := hb.size
    by_cases hlt : k < l.length
    · obtain ⟨b, off, B, d, rfl, hbl, hc1, hc2, hpa⟩ := (h1.below hb) k l[k] (List.getElem?_eq_getElem hlt)
      obtain ⟨b', off', B', d', rfl, hbl', hc1', hc2', hpa'⟩ := (h2.below hb) k l[k] (List.getElem?_eq_getElem hlt)
      have hx : l[k].after.length ≤ 1048576 := HP.out _ (List.getElem_mem hlt)
      generalize l[k] = x at *
      have hz : (0 : Int) ≤ k := by omega
      have hz2 : (k : Int) < l.length := by omega
      have HA := hide hpa
      have HA' := hide hpa'
      clear hpa hpa'
      go_wp2_with fail
      go_region_held3 (fun W => W.cell? ⟨b, off + k * 2, none⟩ = some (.int .i64 x.span) ∧ W.cell? ⟨b, off + k * 2 + 1, none⟩ = some (.slice B x.after.length d) ∧
          W.cell? ⟨b', off' + k * 2, none⟩ = some (.int .i64 x.span) ∧ W.cell? ⟨b', off' + k * 2 + 1, none⟩ = some (.slice B' x.after.length d') ∧ Below w.heap.size w W)
        (first | exact ⟨hc1, hc2, hc1', hc2', hb.drew⟩ | exact ⟨(hB.cell hbl).trans hc1, (hB.cell hbl).trans hc2, (hB.cell hbl').trans hc1', (hB.cell hbl').trans hc2', hb.drew.trans (hB.mono hsz)⟩)
        (first | (go_at_call 45; refine (eqTask_same _ _ _ _ _ _ wr.drew (id HA.out) (id HA'.out) hx).mono ?_; rintro e W' ⟨rfl, hB⟩))
      have hb2 : Below w.heap.size w W' := hb.drew.trans (hB.mono hsz)
      have hsz2 := hb2.size
      go_wp2_with fail
      go_roundw
      case rel => exact ⟨k + 1, hlt, by go_num, by go_grown⟩
      case measure => simp [intOf]; omega
    · go_wp2_with fail
      go_ret
      exact ⟨rfl, by go_grown⟩

theorem szTask_any (A : Option Addr) (c n : Nat) (y left : Int) (w : World) (h0 : 0 ≤ left) (h1 : left ≤ 1048576) (hl : n ≤ 9223372036854775807) :
    Calls Try.prog 37 #[.agg #[.int .i64 y, .slice A n c], .int .i64 left] w fun e w' => e = .returned (.int .i64 (szP left n)) ∧ Below w.heap.size w w' := by
  by_cases h : szP left n < 0
  · have h' : Hid (szP left n = -1) := by unfold szP at h ⊢; apply hide; split <;> simp_all
    go_enter Try.func37, Try.ntmps37
    go_wp2_with fail
    refine (szIntS_any _ _ _ _ _ h0 h1 hl).mono ?_
    rintro e w' ⟨rfl, rfl⟩
    go_wp2_with fail
    go_ret
    exact ⟨by rw [h'.out]; rfl, by go_grown⟩
  · go_enter Try.func37, Try.ntmps37
    go_wp2_with fail
    refine (szIntS_any _ _ _ _ _ h0 h1 hl).mono ?_
    rintro e w' ⟨rfl, rfl⟩
    go_wp2_with fail
    go_ret
    exact ⟨rfl, by go_grown⟩

/-- What a list of tasks takes of a measure. -/
def szTs (left : Int) (l : List Task) : Int := szRows left (l.map (·.after))

theorem szTs_le {left : Int} {l : List Task} (h1 : left ≤ 1048576) (h : ¬ szTs left l < 0) : l.length ≤ 1048576 ∧ ∀ x ∈ l, x.after.length ≤ 1048576 := by
  have := szRows_le h1 h
  refine ⟨by simpa using this.1, fun x hx => this.2 _ (List.mem_map_of_mem hx)⟩

set_option maxHeartbeats 800000 in
theorem szTaskS_any (A : Option Addr) (c : Nat) (l : List Task) (left0 : Int) (w : World) (hA : TasksAt w A l) (h0 : 0 ≤ left0) (h1 : left0 ≤ 1048576) (hl : l.length ≤ 9223372036854775807) (hp : ∀ x ∈ l, x.after.length ≤ 9223372036854775807) :
    Calls Try.prog 15 #[.slice A l.length c, .int .i64 left0] w fun e w' => e = .returned (.int .i64 (szTs left0 l)) ∧ Below w.heap.size w w' := by
  by_cases h : left0 - l.length < 0
  · have HR : Hid (szTs left0 l = -1) := by unfold szTs szRows; rw [List.length_map, if_pos h]; exact hide rfl
    clear hp
    go_enter Try.func15, Try.ntmps15
    go_wp2_with fail
    go_ret
    exact ⟨by rw [HR.out]; rfl, by go_grown⟩
  · have HR : Hid (szTs left0 l = szRowsGo (left0 - l.length) ((l.drop 0).map (·.after))) := by unfold szTs szRows; rw [List.length_map, if_neg h]; exact hide rfl
    have HP := hide hp
    clear hp
    go_enter Try.func15, Try.ntmps15
    go_wp2_with fail
    go_loopw [1, 5] (fun lf i wr => ∃ (k : Nat) (left : Int), k ≤ l.length ∧ i = .int .i64 k ∧ lf = .int .i64 left ∧ 0 ≤ left ∧ left ≤ 1048576 ∧ Hid (szTs left0 l = szRowsGo left ((l.drop k).map (·.after))) ∧ Below w.heap.size w wr) (fun _ i _ => l.length - (intOf i).toNat)
    case atStart => exact ⟨0, _, Nat.zero_le _, rfl, rfl, by omega, by omega, HR, Below.refl _ _⟩
    case round =>
      obtain ⟨k, left, hk, rfl, rfl, hl0, hl1, HG, hb⟩ := hrel
      have hsz := hb.size
      by_cases hlt : k < l.length
      · obtain ⟨b, off, A', c', rfl, hbl, hc1, hc2, -⟩ := (hA.below hb) k l[k] (List.getElem?_eq_getElem hlt)
        have HD : Hid ((l.drop k).map (·.after) = l[k].after :: (l.drop (k + 1)).map (·.after)) := hide (by rw [List.drop_eq_getElem_cons hlt]; rfl)
        have hx : l[k].after.length ≤ 9223372036854775807 := HP.out _ (List.getElem_mem hlt)
        generalize l[k] = x at *
        have hz : (0 : Int) ≤ k := by omega
        have hz2 : (k : Int) < l.length := by omega
        have hr := szP_range left x.after.length hl1
        by_cases h2 : left - x.after.length < 0
        · have H2 : Hid (szP left x.after.length = -1) := by unfold szP; rw [if_pos h2]; exact hide rfl
          have H3 : Hid (szTs left0 l = -1) := hide (by rw [HG.out, HD.out, szRowsGo, if_pos h2])
          have h4 : szP left x.after.length < 0 := by rw [H2.out]; omega
          go_wp2_with fail
          refine (szTask_any _ _ _ _ _ _ hl0 hl1 hx).mono ?_
          rintro e w' ⟨rfl, hB⟩
          have hb2 : Below w.heap.size w w' := next hb hB
          go_wp2_with fail
          go_ret
          exact ⟨by rw [H3.out]; rfl, by go_grown⟩
        · have H2 : Hid (szP left x.after.length = left - x.after.length) := by unfold szP; rw [if_neg h2]; exact hide rfl
          have H3 : Hid (szTs left0 l = szRowsGo (szP left x.after.length) ((l.drop (k + 1)).map (·.after))) := hide (by rw [H2.out, HG.out, HD.out, szRowsGo, if_neg h2])
          have h4 : ¬ szP left x.after.length < 0 := by rw [H2.out]; omega
          go_wp2_with fail
          refine (szTask_any _ _ _ _ _ _ hl0 hl1 hx).mono ?_
          rintro e w' ⟨rfl, hB⟩
          have hb2 : Below w.heap.size w w' := next hb hB
          go_wp2_with fail
          go_roundw
          case rel => exact ⟨k + 1, _, hlt, by go_num, rfl, by omega, by omega, H3, by go_grown⟩
          case measure => simp [intOf]; omega
      · have H3 : Hid (szTs left0 l = left) := by rw [HG.out, List.drop_of_length_le (by omega)]; exact hide rfl
        go_wp2_with fail
        go_ret
        exact ⟨by rw [H3.out]; rfl, by go_grown⟩

section
variable {H : Type} {enc : TypeId × Value → H} {w : World} {base : Nat} {spare : Nat → Bool} {held : Bool}

theorem task_cells {fuel : Nat} {cs : List Value} {x : DataW H × List MemPlace} (h : DataW.trod enc Try.prog w base spare held fuel 66 cs = some x) :
    ∃ (y : Int) (A : Option Addr) (c : Nat) (ps : List Int), cs[0]? = some (.int .i64 y) ∧ cs[1]? = some (.slice A ps.length c) ∧ IntsAt w A ps ∧ ps.length ≤ 9223372036854775807 := by
  obtain ⟨xs, n, _, _, _, hlen, hf⟩ := DataW.trod_struct Try.underlying66 h
  have hx : xs.length = 2 := hlen
  have f0 : DataW.trod enc Try.prog w base spare held n 3 ((cs.drop 0).take (Try.prog.cellsOf 3)) = xs[0]? := hf 0 _ rfl
  have f1 : DataW.trod enc Try.prog w base spare held n 23 ((cs.drop 1).take (Try.prog.cellsOf 23)) = xs[1]? := hf 1 _ rfl
  simp only [show Try.prog.cellsOf 3 = 1 from by kernel_rfl, show Try.prog.cellsOf 23 = 1 from by kernel_rfl] at f0 f1
  rw [List.getElem?_eq_getElem (by omega)] at f0 f1
  obtain ⟨y, hy, _⟩ := DataW.trod_int Try.underlying3 f0
  obtain ⟨A, c, ps, hps, hpa, hpl⟩ := open_numbers f1
  have g : ∀ (o : Nat) (v : Value), (cs.drop o).take 1 = [v] → cs[o]? = some v := fun o v h => by
    have : ((cs.drop o).take 1)[0]? = some v := by rw [h]; rfl
    simpa [List.getElem?_take, List.getElem?_drop] using this
  exact ⟨y, A, c, ps, g 0 _ hy, g 1 _ hps, hpa, hpl⟩

theorem open_tasks {fuel : Nat} {cs : List Value} {x : DataW H × List MemPlace} (h : DataW.trod enc Try.prog w base spare held fuel 36 cs = some x) :
    ∃ A c l, cs = [.slice A l.length c] ∧ TasksAt w A l ∧ l.length ≤ 9223372036854775807 ∧ ∀ x ∈ l, x.after.length ≤ 9223372036854775807 := by
  rcases open_slice Try.underlying36 h with ⟨rfl, _⟩ | ⟨a, len, cap, m, n, D, Pl, rfl, _, hl, hm, hmm, _, hi⟩
  · exact ⟨none, 0, [], rfl, fun i p hp => by simp at hp, by simp, by simp⟩
  · have hlm : len ≤ m := by rw [hmm]; split <;> omega
    have hcells : Try.prog.cellsOf 66 = 2 := by kernel_rfl
    rw [hcells] at hi
    obtain ⟨f, hf⟩ := choose_lt (α := Task) (n := len) (p := fun i x => w.cell? (a.add (i * 2)) = some (.int .i64 x.span) ∧ (∃ A c, w.cell? (a.add (i * 2 + 1)) = some (.slice A x.after.length c) ∧ IntsAt w A x.after) ∧ x.after.length ≤ 9223372036854775807) (fun i hil => by
      obtain ⟨cs', hc, ht⟩ := hi i (by omega)
      obtain ⟨_, _, hat⟩ := World.cells?_some hc
      obtain ⟨y, A, c, ps, h0, h1, hpa, hpl⟩ := task_cells ht
      have e0 := hat 0 (by omega)
      have e1 := hat 1 (by omega)
      rw [Go.Deep.add_add, h0] at e0
      rw [Go.Deep.add_add, h1] at e1
      exact ⟨⟨y, ps⟩, e0, ⟨A, c, e1, hpa⟩, hpl⟩)
    refine ⟨some a, cap, (List.range len).map f, by simp, fun i p hp => ?_, by simp only [List.length_map, List.length_range]; unfold maxLen at hm; omega, fun x hx => ?_⟩
    · have hil : i < len := by have := (List.getElem?_eq_some_iff.1 hp).1; simpa using this
      have hpe : f i = p := by simpa [hil] using hp
      obtain ⟨g0, ⟨A, c, g1, gp⟩, _⟩ := hf i hil
      rw [hpe] at g0 g1 gp
      obtain ⟨b, off, rfl, hadd⟩ := addr_of (hf 0 (by omega)).1
      rw [hadd] at g0 g1
      exact ⟨b, off, A, c, rfl, (cell_lt g0).1, g0, by rw [Nat.add_assoc]; exact g1, gp⟩
    · obtain ⟨i, hi, rfl⟩ := List.mem_map.1 hx
      exact (hf i (by simpa using hi)).2.2
end
end Go.Proofs.Ytgagfaajilbmmaa
