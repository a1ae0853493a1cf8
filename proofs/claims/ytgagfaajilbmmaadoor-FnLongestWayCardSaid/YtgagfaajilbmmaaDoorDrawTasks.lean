/- Lists of tasks that a draw owns: each task's list of tasks before it lies in a row of numbers of its own. Append of one task and of a whole slice, what lies behind the first.
   Conditions: the bounds in each statement.
   Contract of the draw of tasks.
   Conditions: the bounds in each statement. -/
import Derived.Test.YtgagfaajilbmmaaDoorDrawI
import Derived.Test.YtgagfaajilbmmaaDoorTasks
import Derived.Deep.DeepCutAuto
namespace Go.Proofs.YtgagfaajilbmmaaDoor
open Go.RowKit Go.ChangeShapes Go.WideShapes Go.ChangeAt Go.Deep

/-- The block of an address is a row of numbers. -/
def IB (w : World) (A : Option Addr) : Prop := ∀ a, A = some a → ∃ cs, w.heap[a.block]? = some (.cells cs 3 (0, 0))
/-- The value is a slice of these numbers, in a row of numbers. -/
def Aft (w : World) (v : Value) (xs : List Int) : Prop := ∃ A c, v = .slice A xs.length c ∧ IntsAt w A xs ∧ IB w A
def pcells (ps : List (Task × Value)) : List Value := ps.flatMap (fun p => [.int .i64 p.1.span, p.2])
def TaskSl (w : World) (lo : Nat) (v : Value) (ps : List (Task × Value)) : Prop := w.ownsRow lo 50 2 v ps.length (pcells ps) ∧ ∀ p ∈ ps, Aft w p.2 p.1.after

theorem heap_ltT {w : World} {X : Nat} {o : Obj} (h : w.heap[X]? = some o) : X < w.heap.size := (Array.getElem?_eq_some_iff.1 h).1
theorem pcells_at : ∀ {ps : List (Task × Value)} {i : Nat} {p : Task × Value}, ps[i]? = some p → (pcells ps)[i * 2]? = some (.int .i64 p.1.span) ∧ (pcells ps)[i * 2 + 1]? = some p.2
  | [], i, p, h => by simp at h
  | q :: r, 0, p, h => by
    obtain rfl : q = p := by simpa using h
    exact ⟨rfl, rfl⟩
  | q :: r, i + 1, p, h => by
    have := pcells_at (ps := r) (i := i) (p := p) (by simpa using h)
    rw [show (i + 1) * 2 = i * 2 + 1 + 1 from by omega]
    exact this
theorem pcells_len (ps : List (Task × Value)) : (pcells ps).length = ps.length * 2 := by
  induction ps with
  | nil => rfl
  | cons q r ih => simp only [pcells, List.flatMap_cons, List.length_append, List.length_cons, List.length_nil] at *; omega
theorem pcells_append (ps qs : List (Task × Value)) : pcells (ps ++ qs) = pcells ps ++ pcells qs := by simp [pcells]
theorem pcells_drop (ps : List (Task × Value)) : pcells (ps.drop 1) = (pcells ps).drop 2 := by
  cases ps with
  | nil => rfl
  | cons p r => rfl

theorem Aft.of_block {w w' : World} {v : Value} {xs : List Int} (h : Aft w v xs) (hs : w.heap.size ≤ w'.heap.size) (hb : ∀ (k : Nat) (cs : Array Value), w.heap[k]? = some (Obj.cells cs 3 (0, 0)) → w'.heap[k]? = w.heap[k]?) : Aft w' v xs := by
  obtain ⟨A, c, rfl, hI, hB⟩ := h
  refine ⟨A, c, rfl, fun i x hx => ?_, fun a ha => ?_⟩
  · obtain ⟨b, off, e, hlt, h1⟩ := hI i x hx
    obtain ⟨cs, hcs⟩ := hB _ e
    exact ⟨b, off, e, Nat.lt_of_lt_of_le hlt hs, (World.cell?_of_block (a := ⟨b, off + i, none⟩) (hb _ _ hcs)).trans h1⟩
  · obtain ⟨cs, hcs⟩ := hB a ha
    exact ⟨cs, (hb _ _ hcs).trans hcs⟩
/-- What is written into a row of another type leaves rows of numbers. -/
theorem far_rows {w w' : World} {r : Nat} {c : Array Value} {t : TypeId} {fr : Nat × Nat} (hr : w.heap[r]? = some (.cells c t fr)) (hne : t ≠ 3) (hg : w.grownBy w' (some r)) : ∀ (k : Nat) (cs : Array Value), w.heap[k]? = some (Obj.cells cs 3 (0, 0)) → w'.heap[k]? = w.heap[k]? := by
  intro k cs hk
  refine hg.block k (heap_ltT hk) (fun e => ?_)
  injection e with e
  rw [e, hr] at hk
  injection hk with hk
  injection hk with _ h2
  exact hne h2
theorem Aft.below {w w' : World} {v : Value} {xs : List Int} (h : Aft w v xs) (hb : Below w.heap.size w w') : Aft w' v xs := h.of_block hb.size (fun _ _ hk => hb.block _ (heap_ltT hk))
theorem Aft.nil (w : World) : Aft w (.slice none 0 0) [] := ⟨none, 0, rfl, fun i x hx => by simp at hx, fun a ha => by cases ha⟩
theorem Aft.of_sl {w : World} {lo : Nat} {v : Value} {xs : List Int} (h : IntSl w lo v xs) : Aft w v xs := by
  obtain ⟨A, c, rfl, hI, -⟩ := h.form
  refine ⟨A, c, rfl, hI, fun a ha => ?_⟩
  rcases h.2 with ⟨hv, -⟩ | ⟨g, cap, cur, hv, -, hg, -⟩
  · injection hv with hv
    rw [hv] at ha
    cases ha
  · injection hv with hv
    rw [hv] at ha
    injection ha with ha
    subst ha
    exact ⟨cur, hg⟩

theorem rowT_below {w w' : World} {lo : Nat} {v : Value} {n : Nat} {xs : List Value} {t : TypeId} {s : Nat} (h : w.ownsRow lo t s v n xs) (hb : Below w.heap.size w w') : w'.ownsRow lo t s v n xs := by
  have hlt := h.lt
  obtain ⟨h1, h2⟩ := h
  refine ⟨h1, ?_⟩
  rcases h2 with hn | ⟨g, cap, cur, rfl, hb', hg, r⟩
  · exact .inl hn
  · exact .inr ⟨g, cap, cur, rfl, hb', (hb.block g (hlt g rfl).2).trans hg, r⟩
theorem TaskSl.below {w w' : World} {lo : Nat} {v : Value} {ps : List (Task × Value)} (h : TaskSl w lo v ps) (hb : Below w.heap.size w w') : TaskSl w' lo v ps :=
  ⟨rowT_below h.1 hb, fun p hp => (h.2 p hp).below hb⟩
theorem TaskSl.pick {w w' : World} {lo b n : Nat} {v : Value} {ps : List (Task × Value)} (h : TaskSl w lo v ps) (hR : Rd w b n) (hb : b < lo) (hg : w.grownBy w' (some b)) : TaskSl w' lo v ps := by
  refine ⟨row_pickI h.1 hb hg, fun p hp => (h.2 p hp).of_block hg.size ?_⟩
  obtain ⟨_, _, _, _, _, _, hR, _⟩ := hR
  exact far_rows hR (by decide) hg
theorem TaskSl.form {w : World} {lo : Nat} {v : Value} {ps : List (Task × Value)} (h : TaskSl w lo v ps) : ∃ A c, v = .slice A ps.length c ∧ TasksAt w A (ps.map Prod.fst) := by
  obtain ⟨ho, hc⟩ := h
  have hlt := ho.lt
  rcases ho.2 with ⟨hv, hn⟩ | ⟨g, cap, cur, hv, _⟩
  · have : ps = [] := List.eq_nil_of_length_eq_zero hn
    subst this
    exact ⟨none, 0, hv, fun i x hx => by simp at hx⟩
  · refine ⟨some ⟨g, 0, none⟩, cap, hv, fun i x hx => ?_⟩
    subst hv
    rw [List.getElem?_map] at hx
    obtain ⟨p, hp, rfl⟩ := Option.map_eq_some_iff.1 hx
    have hi : i < ps.length := (List.getElem?_eq_some_iff.1 hp).1
    obtain ⟨A, c, e, hI, -⟩ := hc p (List.mem_of_getElem? hp)
    have hpc := pcells_at hp
    refine ⟨g, 0, A, c, rfl, (hlt g rfl).2, ?_, ?_, hI⟩
    · rw [Nat.zero_add, World.ownsRow.cellAt ho (i * 2) (by omega)]; exact hpc.1
    · rw [Nat.zero_add, World.ownsRow.cellAt ho (i * 2 + 1) (by omega), hpc.2, e]

theorem infoTk : (Tryd.prog.info? 50).map (fun i => (i.zero, i.size, i.bytes)) = some (some (.agg #[.int .i64 0, .slice none 0 0]), 2, 32) := by kernel_rfl
theorem make_tasksT (n : Nat) (hn : n ≤ 1048576) (w : World) :
    (Instr.makeSlice 43 (.int .i64 (n : Int)) (.int .i64 (n : Int))).run Tryd.prog w = .ok (.slice (some ⟨w.heap.size, 0, none⟩) n n) (w.alloc (.cells (madeCells #[.int .i64 0, .slice none 0 0] (n * 2)) 50)) := by
  obtain ⟨i0, hi, hz0, hz1, hz2⟩ := info_parts infoTk
  have := run_make (P := Tryd.prog) w 43 50 i0 _ Tryd.underlying43 hi hz0 .i64 .i64 n n (by omega) (by omega) (by rw [hz2]; omega) (by omega)
  simpa [hz1, Value.cells] using this
theorem pcells_one {ps : List (Task × Value)} (h : ∀ p ∈ ps, ∃ A n c, p.2 = .slice A n c) : ∀ u ∈ pcells ps, u.oneCell' = true := by
  intro u hu
  obtain ⟨p, hp, h2⟩ := List.mem_flatMap.1 hu
  obtain ⟨A, n, c, e⟩ := h p hp
  simp only [List.mem_cons, List.not_mem_nil, or_false] at h2
  rcases h2 with rfl | rfl
  · rfl
  · rw [e]; rfl
theorem TaskSl.slices {w : World} {lo : Nat} {v : Value} {ps : List (Task × Value)} (h : TaskSl w lo v ps) : ∀ p ∈ ps, ∃ A n c, p.2 = .slice A n c := fun p hp => by
  obtain ⟨A, c, e, -⟩ := h.2 p hp
  exact ⟨A, _, c, e⟩

/-- Behind an append to a row of tasks the rows of numbers are as they were. -/
theorem after_append {W w' : World} {lo : Nat} {v : Value} {n : Nat} {xs : List Value} (hown : W.ownsRow lo 50 2 v n xs) (hg : W.grownBy w' v.ownBlock) : ∀ (k : Nat) (cs : Array Value), W.heap[k]? = some (Obj.cells cs 3 (0, 0)) → w'.heap[k]? = W.heap[k]? := by
  rcases hown.2 with ⟨rfl, _⟩ | ⟨g0, cap0, cur0, rfl, _, hg0, _⟩
  · intro k cs hk
    exact hg.block k (heap_ltT hk) (fun e => by cases e)
  · exact far_rows hg0 (by decide) hg

theorem wp_push_task {W : World} {o : Oper} {a : Act} {K : Act → World → Prop} {Q : Exit → Act → World → Prop} (s x : Operand)
    (ho : o.op = .call { callee := .builtin .append, args := #[s, x], argTypes := #[43, 43] }) (lo : Nat) (v : Value) (ps : List (Task × Value)) (hs : a.eval s = v) (hown : TaskSl W lo v ps) (g : Nat) (p : Task × Value)
    (hx : a.eval x = .slice (some ⟨g, 0, none⟩) 1 1) (hg : W.heap[g]? = some (.cells #[.int .i64 p.1.span, p.2] 50 (0, 0))) (hp : Aft W p.2 p.1.after) (hn : ps.length ≤ 1048576) (hlo : lo ≤ W.heap.size)
    (h : ∀ g' cap w', TaskSl w' lo (.slice (some ⟨g', 0, none⟩) (ps.length + 1) cap) (ps ++ [p]) → W.grownBy w' v.ownBlock → K (a.put o.dst (.slice (some ⟨g', 0, none⟩) (ps.length + 1) cap)) w') : o.wp Tryd.prog a W K Q := by
  obtain ⟨i0, hi, hz0, hz1, hz2⟩ := info_parts infoTk
  have hp1 : p.2.oneCell' = true := by obtain ⟨A, c, e, -⟩ := hp; rw [e]; rfl
  refine wp_append_lies W s x 43 ho lo 50 i0 _ 2 32 Tryd.underlying43 hi hz0 hz1 hz2 rfl (by decide) v ps.length (pcells ps) hs hown.1 ⟨g, 0, none⟩ 1 1 [.int .i64 p.1.span, p.2] hx rfl
    (World.news_of_block (cs := #[.int .i64 p.1.span, p.2]) hg) (fun u hu => by
      simp only [List.mem_cons, List.not_mem_nil, or_false] at hu
      rcases hu with rfl | rfl
      · rfl
      · exact hp1) (by decide) (by unfold maxLen; omega) (by omega) hlo _ rfl ?_
  intro g' cap w' h1 h2 _ _
  have hk := after_append hown.1 h2
  refine h g' cap w' ⟨?_, fun q hq => ?_⟩ h2
  · rw [List.length_append, pcells_append]
    exact h1
  · rcases List.mem_append.1 hq with hq | hq
    · exact (hown.2 q hq).of_block h2.size hk
    · obtain rfl : q = p := by simpa using hq
      exact hp.of_block h2.size hk
/-- The cells that lie from an address on. -/
def CellsAt (W : World) (ad : Addr) (cs : List Value) : Prop := ∀ j u, cs[j]? = some u → W.cell? (ad.add j) = some u
theorem wp_spread_task {W : World} {o : Oper} {a : Act} {K : Act → World → Prop} {Q : Exit → Act → World → Prop} (s x : Operand)
    (ho : o.op = .call { callee := .builtin .append, args := #[s, x], argTypes := #[43, 43] }) (lo : Nat) (v : Value) (ps : List (Task × Value)) (hs : a.eval s = v) (hown : TaskSl W lo v ps) (hv : v ≠ .slice none 0 0)
    (ad : Addr) (m c : Nat) (qs : List (Task × Value)) (hm : qs.length = m) (hx : a.eval x = .slice (some ad) m c) (hA : CellsAt W ad (pcells qs)) (hq : ∀ q ∈ qs, Aft W q.2 q.1.after) (hn : ps.length + m ≤ 1048576) (hlo : lo ≤ W.heap.size)
    (h : ∀ g cap w', TaskSl w' lo (.slice (some ⟨g, 0, none⟩) (ps.length + m) cap) (ps ++ qs) → W.grownBy w' v.ownBlock → K (a.put o.dst (.slice (some ⟨g, 0, none⟩) (ps.length + m) cap)) w') : o.wp Tryd.prog a W K Q := by
  obtain ⟨i0, hi, hz0, hz1, hz2⟩ := info_parts infoTk
  subst hm
  refine wp_spread s x 43 ho lo 50 i0 _ 2 32 Tryd.underlying43 hi hz0 hz1 hz2 rfl (by decide) v ps.length (pcells ps) hs hown.1 hv ad qs.length c (pcells qs) hx (pcells_len qs) hA
    (pcells_one (fun q hq' => by obtain ⟨A, c, e, -⟩ := hq q hq'; exact ⟨A, _, c, e⟩)) (by unfold maxLen; omega) (by omega) hlo ?_
  intro g cap w' h1 h2
  have hk := after_append hown.1 h2
  refine h g cap w' ⟨?_, fun q hq' => ?_⟩ h2
  · rw [List.length_append, pcells_append]
    exact h1
  · rcases List.mem_append.1 hq' with hq' | hq'
    · exact (hown.2 q hq').of_block h2.size hk
    · exact (hq q hq').of_block h2.size hk
theorem step_spread_task {W : World} {ops : Array Oper} {o : Oper} {a : Act} {K : Act → World → Prop} {Q : Exit → Act → World → Prop} {E : Prop} (hgd : o.guard = none) (s x : Operand)
    (ho : o.op = .call { callee := .builtin .append, args := #[s, x], argTypes := #[43, 43] }) (lo : Nat) (v : Value) (ps : List (Task × Value)) (hs : a.eval s = v) (hown : TaskSl W lo v ps) (hv : v ≠ .slice none 0 0)
    (ad : Addr) (m c : Nat) (qs : List (Task × Value)) (hm : qs.length = m) (hx : a.eval x = .slice (some ad) m c) (hA : CellsAt W ad (pcells qs)) (hq : ∀ q ∈ qs, Aft W q.2 q.1.after) (hn : ps.length + m ≤ 1048576) (hlo : lo ≤ W.heap.size)
    (h : ∀ g cap w', TaskSl w' lo (.slice (some ⟨g, 0, none⟩) (ps.length + m) cap) (ps ++ qs) → W.grownBy w' v.ownBlock → K (a.put o.dst (.slice (some ⟨g, 0, none⟩) (ps.length + m) cap)) w') :
    if Region.wanted o (yielded ops a.tmps) = true then Oper.wp Tryd.prog o a W K Q else E := by
  have hw : Region.wanted o (yielded ops a.tmps) = true := by simp [Region.wanted, hgd]
  rw [if_pos hw]
  exact wp_spread_task s x ho lo v ps hs hown hv ad m c qs hm hx hA hq hn hlo h

/-- One task in a block of its own, as a slice that the call owns. -/
theorem task_lit {W : World} {lo g : Nat} {a : Int} {v : Value} {xs : List Int} (hg : W.heap[g]? = some (.cells #[.int .i64 a, v] 50 (0, 0))) (hlo : lo ≤ g) (hv : Aft W v xs) : TaskSl W lo (.slice (some ⟨g, 0, none⟩) 1 1) [(⟨a, xs⟩, v)] :=
  ⟨⟨rfl, .inr ⟨g, 1, _, rfl, hlo, hg, Nat.le_refl _, by unfold maxLen; omega, rfl, rfl⟩⟩, fun p hp => by
    obtain rfl : p = (⟨a, xs⟩, v) := by simpa using hp
    exact hv⟩
theorem TaskSl.cap {w : World} {lo n c g : Nat} {ps : List (Task × Value)} (h : TaskSl w lo (.slice (some ⟨g, 0, none⟩) n c) ps) : ps.length = n ∧ n ≤ c ∧ c ≤ maxLen ∧ lo ≤ g ∧ g < w.heap.size := by
  have hlt := World.ownsRow.lt h.1 g rfl
  rcases h.1.2 with ⟨hv, _⟩ | ⟨g', cap, cur, hv, _, _, h1, h2, _⟩
  · cases hv
  · injection hv with e1 e2 e3
    subst e2 e3
    exact ⟨rfl, h1, h2, hlt.1, hlt.2⟩
theorem TaskSl.cells {w : World} {lo n c g : Nat} {ps : List (Task × Value)} (h : TaskSl w lo (.slice (some ⟨g, 0, none⟩) n c) ps) : CellsAt w ⟨g, 0, none⟩ (pcells ps) := fun j u hu => World.ownsRow.cells h.1 rfl j u hu
theorem CellsAt.tail {W : World} {g : Nat} {cs : List Value} (h : CellsAt W ⟨g, 0, none⟩ cs) : CellsAt W ⟨g, 2, none⟩ (cs.drop 2) := fun j u hu => by
  have := h (2 + j) u (by simpa using hu)
  rw [add_plain] at this ⊢
  rwa [Nat.zero_add] at this
theorem CellsAt.nil (W : World) (ad : Addr) : CellsAt W ad [] := fun j u hu => by simp at hu
set_option maxRecDepth 100000 in
/-- What lies behind the first task, if there is one. -/
theorem tail_sliceTk {w : World} {lo g L c : Nat} {ps : List (Task × Value)} (h : TaskSl w lo (.slice (some ⟨g, 0, none⟩) L c) ps) : ∃ (M : Int) (ad : Addr) (L9 c9 : Nat), min (1 : Int) (L : Int) = M ∧
    (∀ W, (Instr.slice 43 (.slice (some ⟨g, 0, none⟩) L c) (some (.int .i64 M)) none none).run Tryd.prog W = .ok (.slice (some ad) L9 c9) W) ∧ (∀ W, (Instr.sliceAt 43 (.slice (some ⟨g, 0, none⟩) L c) (some (.int .i64 M)) none none).run Tryd.prog W = .ok (.slice (some ad) L9 c9) W) ∧
    (∀ W, CellsAt W ⟨g, 0, none⟩ (pcells ps) → CellsAt W ad (pcells (ps.drop 1))) ∧ (ps.drop 1).length = L9 := by
  have ht : Tryd.prog.underlying 43 = some (.slice (Tryd.prog.elem 43)) := rfl
  have hz : ∀ W, (sizeOf (Tryd.prog.elem 43)).run Tryd.prog W = .ok 2 W := fun W => by rfl
  have hcap := TaskSl.cap h
  obtain ⟨h1, h2, -⟩ := hcap
  cases ps with
  | nil =>
    obtain rfl : L = 0 := by simpa using h1.symm
    have : ∀ W, (Instr.slice 43 (.slice (some ⟨g, 0, none⟩) 0 c) (some (.int .i64 0)) none none).run Tryd.prog W = .ok (.slice (some ⟨g, 0, none⟩) 0 c) W := fun W => by
      rw [run_slice_l W _ _ _ _ ht .i64 0 (by omega) (by simp), hz]; simp [Result.andThen, sliced, Addr.add]
    exact ⟨0, ⟨g, 0, none⟩, 0, c, rfl, this, fun W => (run_sliceAt_slice W _ _ _ _ _ ht).trans (this W), fun W _ => CellsAt.nil _ _, rfl⟩
  | cons x r =>
    obtain rfl : L = r.length + 1 := by simpa using h1.symm
    have hM : min (1 : Int) ((r.length + 1 : Nat) : Int) = 1 := by omega
    by_cases h1c : c = 1
    · subst h1c
      have hr : r = [] := List.eq_nil_of_length_eq_zero (by omega)
      subst hr
      have : ∀ W, (Instr.slice 43 (.slice (some ⟨g, 0, none⟩) ([] : List (Task × Value)).length.succ 1) (some (.int .i64 1)) none none).run Tryd.prog W = .ok (.slice (some ⟨g, 0, none⟩) 0 0) W := fun W => by
        rw [run_slice_l W _ _ _ _ ht .i64 1 (by omega) (by simp), hz]; simp [Result.andThen, sliced]
      exact ⟨1, ⟨g, 0, none⟩, 0, 0, rfl, this, fun W => (run_sliceAt_slice W _ _ _ _ _ ht).trans (this W), fun W _ => CellsAt.nil _ _, rfl⟩
    · have : ∀ W, (Instr.slice 43 (.slice (some ⟨g, 0, none⟩) (r.length + 1) c) (some (.int .i64 1)) none none).run Tryd.prog W = .ok (.slice (some ⟨g, 2, none⟩) r.length (c - 1)) W := fun W => by
        rw [run_slice_l W _ _ _ _ ht .i64 1 (by omega) (by omega), hz]; simp [Result.andThen, sliced, Addr.add, h1c]
      exact ⟨1, ⟨g, 2, none⟩, r.length, c - 1, hM, this, fun W => (run_sliceAt_slice W _ _ _ _ _ ht).trans (this W), fun W h => by rw [pcells_drop]; exact h.tail, rfl⟩
theorem eight_cells : (madeCells #[.int .i64 0, .slice none 0 0] 16).toList = pcells (List.replicate 8 ((⟨0, []⟩ : Task), Value.slice none 0 0)) := by simp [madeCells, pcells, List.range, List.range.loop]
theorem eight_tasks (w : World) (lo : Nat) (hlo : lo ≤ w.heap.size) : TaskSl (w.alloc (.cells (madeCells #[.int .i64 0, .slice none 0 0] 16) 50)) lo (.slice (some ⟨w.heap.size, 0, none⟩) 8 8) (List.replicate 8 (⟨0, []⟩, .slice none 0 0)) := by
  refine ⟨?_, fun p hp => ?_⟩
  · have := World.ownsRow_lit (e := 50) (size := 2) w (madeCells #[.int .i64 0, .slice none 0 0] 16) 8 hlo (by unfold maxLen; omega) (size_madeCells _ _)
    rw [eight_cells] at this
    exact this
  · obtain rfl := (List.mem_replicate.1 hp).2
    exact Aft.nil _
end Go.Proofs.YtgagfaajilbmmaaDoor

namespace Go.Proofs.YtgagfaajilbmmaaDoor
open Go.RowKit Go.ChangeShapes Go.WideShapes Go.ChangeAt Go.Deep

/-- The task that is being drawn lies in block X; the reader is block b. -/
def TkSt (wa : World) (b N X : Nat) (sp : Int) (L : Nat) (wr : World) : Prop :=
  ∃ v ys, wr.heap[X]? = some (Obj.cells #[.int .i64 sp, v] 50 (0, 0)) ∧ IntSl wr (X + 1) v ys ∧ ys.length ≤ L ∧ Rd wr b N ∧ wa.grownBy wr (some b) ∧ wa.heap.size ≤ X ∧ b < wa.heap.size
theorem keepPickT {b X N' : Nat} {wa wr w' : World} {sp : Int} {v : Value} {ys : List Int} (h1 : wr.heap[X]? = some (Obj.cells #[.int .i64 sp, v] 50 (0, 0))) (h2 : IntSl wr (X + 1) v ys) (h4 : wa.grownBy wr (some b)) (h5 : wa.heap.size ≤ X) (h6 : b < wa.heap.size) (hg : wr.grownBy w' (some b)) (hR : Rd w' b N') :
    w'.heap[X]? = some (Obj.cells #[.int .i64 sp, v] 50 (0, 0)) ∧ IntSl w' (X + 1) v ys ∧ Rd w' b N' ∧ wa.grownBy w' (some b) :=
  ⟨(hg.block X (heap_ltT h1) (fun e => by injection e with e; omega)).trans h1, row_pickI h2 (by omega) hg, hR, h4.trans hg⟩
theorem cellsT {w : World} {X : Nat} {sp : Int} {v : Value} (h : w.heap[X]? = some (Obj.cells #[.int .i64 sp, v] 50 (0, 0))) :
    w.cell? ⟨X, 0, none⟩ = some (.int .i64 sp) ∧ w.cell? ⟨X, 1, none⟩ = some v ∧ ∀ j, w.frozen? ⟨X, j, none⟩ = false :=
  ⟨by rw [cell_of_row w X 0 _ _ _ h]; rfl, by rw [cell_of_row w X 1 _ _ _ h]; rfl, fun j => frozen_of_row w X j _ _ h⟩
theorem stT1 {w : World} {X : Nat} {sp : Int} {v : Value} (h : w.heap[X]? = some (Obj.cells #[.int .i64 sp, v] 50 (0, 0))) (u : Value) : (w.setCell ⟨X, 1, none⟩ u).heap[X]? = some (Obj.cells #[.int .i64 sp, u] 50 (0, 0)) := by
  rw [heap_setCell_same w X 1 _ _ _ h]; rfl
/-- What a store into the task's block keeps. -/
theorem keepSetT {b X N : Nat} {wa wr : World} {v : Value} {ys : List Int} (j : Nat) (u : Value) (h2 : IntSl wr (X + 1) v ys) (hR : Rd wr b N) (h4 : wa.grownBy wr (some b)) (h5 : wa.heap.size ≤ X) (h6 : b < wa.heap.size) :
    IntSl (wr.setCell ⟨X, j, none⟩ u) (X + 1) v ys ∧ Rd (wr.setCell ⟨X, j, none⟩ u) b N ∧ wa.grownBy (wr.setCell ⟨X, j, none⟩ u) (some b) := by
  have hs : wr.grownBy (wr.setCell ⟨X, j, none⟩ u) (some X) := ⟨rfl, rfl, rfl, by simp, fun k _ hk => heap_setCell_other wr ⟨X, j, none⟩ k u (fun e => hk (by simp [e]))⟩
  refine ⟨World.ownsRow.kept h2 hs ?_, hR.kept (fun k hk => heap_setCell_other wr ⟨X, j, none⟩ k u (by simp; omega)), ⟨hs.os.trans h4.os, hs.tape.trans h4.tape, hs.output.trans h4.output, Nat.le_trans h4.size hs.size, fun k hk hne => (heap_setCell_other wr ⟨X, j, none⟩ k u (by simp; omega)).trans (h4.block k hk hne)⟩⟩
  cases e : v.ownBlock with
  | none => exact .inl rfl
  | some k => exact .inr (fun e' => by injection e' with e'; have := (World.ownsRow.lt h2 k e).1; omega)
theorem afterPushT {b X N L : Nat} {wa w4 w5 : World} {o : Obj} {sp : Int} {v v' : Value} {ys ys' : List Int} (hX : w4.heap[X]? = some (Obj.cells #[.int .i64 sp, v] 50 (0, 0))) (hP : IntSl w4 (X + 1) v ys) (hR : Rd w4 b N) (h4 : wa.grownBy w4 (some b)) (h5 : wa.heap.size ≤ X) (h6 : b < wa.heap.size)
    (hg : (w4.alloc o).grownBy w5 v.ownBlock) (hown : IntSl w5 (X + 1) v' ys') (hl : ys'.length ≤ L) :
    w5.heap[X]? = some (Obj.cells #[.int .i64 sp, v] 50 (0, 0)) ∧ TkSt wa b N X sp L (w5.setCell ⟨X, 1, none⟩ v') := by
  have hXl := heap_ltT hX
  have hsz := h4.size
  have hb : ∀ k, k ≤ X → w5.heap[k]? = w4.heap[k]? := fun k hk => (hg.block k (by simp; omega) (fun e => by have := (World.ownsRow.lt hP k e.symm).1; omega)).trans (heap_alloc_old w4 _ (by omega))
  have hX5 := (hb X (Nat.le_refl _)).trans hX
  have hR5 : Rd w5 b N := hR.kept (fun k hk => hb k (by omega))
  have hg5 : wa.grownBy w5 (some b) := ⟨hg.os.trans h4.os, hg.tape.trans h4.tape, hg.output.trans h4.output, Nat.le_trans hsz (by have := hg.size; simp at this; omega), fun k hk hne => (hb k (by omega)).trans (h4.block k hk hne)⟩
  have ks := keepSetT 1 v' hown hR5 hg5 h5 h6
  exact ⟨hX5, v', ys', stT1 hX5 v', ks.1, hl, ks.2.1, ks.2.2, h5, h6⟩

def DrewTk (w : World) (b n : Nat) (e : Ending) (w' : World) : Prop := ∃ (ps : List (Task × Value)) (g c : Nat), e = .returned (.slice (some ⟨g, 0, none⟩) ps.length c) ∧ TaskSl w' w.heap.size (.slice (some ⟨g, 0, none⟩) ps.length c) ps ∧ ps.length ≤ 8 ∧ (∀ p ∈ ps, p.1.after.length ≤ 8) ∧ Rd w' b (n + 80) ∧ w.grownBy w' (some b)

set_option maxRecDepth 100000 in
set_option maxHeartbeats 4000000 in
theorem l20Tasks_any (b n : Nat) (k : Int) (w : World) (hR : Rd w b n) (hn : n ≤ 80000) (hk : k ≤ 1000000) :
    Calls Tryd.prog 68 #[.pointer (some ⟨b, 0, none⟩), .int .i64 k] w (DrewTk w b n) := by
  have hblt := hR.lt
  have HO : Hid (TaskSl (w.alloc (.cells #[] 50)) w.heap.size (.slice (some ⟨w.heap.size, 0, none⟩) 0 0) []) := hide ⟨World.ownsRow_lit w #[] 0 (Nat.le_refl _) (by unfold maxLen; omega) rfl, fun p hp => by simp at hp⟩
  have HRA : Hid (Rd (w.alloc (.cells #[] 50)) b n) := hide (hR.kept (fun j hj => heap_alloc_old w _ (by omega)))
  have HGA : Hid (w.grownBy (w.alloc (.cells #[] 50)) (some b)) := hide (World.grownBy_alloc w _ _)
  go_enter Tryd.func68, Tryd.ntmps68
  go_wp2_with fail
  refine (pick_any b n 4 _ HRA.out (by omega) (by omega)).mono ?_
  rintro e w0 ⟨q0, rfl, hq00, hq01, hR0, hg0⟩
  have HS0 := hide (HO.out.pick HRA.out hblt hg0)
  have HG0 := hide (HGA.out.trans hg0)
  have hq3 : q0 ≤ 3 := by omega
  clear hg0 HO HRA HGA hR
  go_wp2_with fail
  refine (pick_any b _ 8 _ hR0 (by omega) (by omega)).mono ?_
  rintro e w1 ⟨q, rfl, hq0, hq1, hR1, hg1⟩
  have HS1 : Hid (TaskSl w1 w.heap.size (.slice (some ⟨w.heap.size, 0, none⟩) 0 0) []) := hide (HS0.out.pick hR0 hblt hg1)
  have HG1 : Hid (w.grownBy w1 (some b)) := hide (HG0.out.trans hg1)
  have HR1 := hide hR1
  have hq7 : q ≤ 7 := by omega
  clear hg1 hR1 hR0 HS0 HG0
  go_wp2_with fail
  go_loopw [5, 7] (fun v i wr => ∃ (j : Nat) (ps : List (Task × Value)) (L g c : Nat), j ≤ 7 ∧ i = .int .i64 j ∧ L + j ≤ 7 ∧ v = .slice (some ⟨g, 0, none⟩) L c ∧ Hid (ps.length = L) ∧ Hid (∀ p ∈ ps, p.1.after.length ≤ 8) ∧ TaskSl wr w.heap.size (.slice (some ⟨g, 0, none⟩) L c) ps ∧ Rd wr b (n + 2 + 8 * L) ∧ w.grownBy wr (some b)) (fun _ i _ => (intOf i).toNat)
  case atStart => exact ⟨q.toNat, [], 0, w.heap.size, 0, by omega, by rw [Int.toNat_of_nonneg hq0], by omega, rfl, hide rfl, hide (fun p hp => by simp at hp), HS1.out, HR1.out, HG1.out⟩
  case round =>
    clear HS1 HG1 HR1
    obtain ⟨j, ps, L, g, c, hj, rfl, hlj, rfl, HLL, HLE, hS, hRr, hgr⟩ := hrel
    have HS := hide hS
    have HGR := hide hgr
    have hzr := hgr.size
    clear hS hgr
    by_cases hj0 : 0 < j
    · have hjz : (0 : Int) < j := by omega
      go_wp2_with fail
      refine (pick_any b _ 12 _ hRr (by omega) (by omega)).mono ?_
      rintro e w2 ⟨q2, rfl, hq20, hq21, hR2, hg2⟩
      have HS2 := hide (HS.out.pick hRr hblt hg2)
      have HG2 := hide (HGR.out.trans hg2)
      have hz2 := HG2.out.size
      have hb2 := hR2.lt
      have HT : Hid (TkSt w2 b (n + 2 + 8 * L + 1) w2.heap.size q2 0 (w2.alloc (.cells #[.int .i64 q2, .slice none 0 0] 50))) := hide ⟨.slice none 0 0, [], heap_alloc_new w2 _, World.ownsRow_nil _ _ _ _, by simp, hR2.kept (fun j hj => heap_alloc_old w2 _ (by omega)), World.grownBy_alloc w2 _ _, Nat.le_refl _, hb2⟩
      have HR2 := hide hR2
      clear hg2 HS HGR hRr hR2
      go_wp2_with fail
      go_loopw [9] (fun iv wr => ∃ t : Nat, t ≤ L ∧ iv = .int .i64 t ∧ TkSt w2 b (n + 2 + 8 * L + 1 + t) w2.heap.size q2 t wr) (fun iv _ => L - (intOf iv).toNat)
      case atStart => exact ⟨0, Nat.zero_le _, rfl, HT.out⟩
      case round =>
        obtain ⟨t, ht, rfl, v, ys, hX, hP, hl, hRd, hg, h5, h6⟩ := hrel
        have HX := hide (And.intro hX (And.intro hP hg))
        obtain ⟨A, ca, hv, -⟩ := hP.form
        subst hv
        clear hP hg HT
        by_cases htl : t < L
        · have hd : decide ((t : Int) < L) = true := decide_eq_true (by omega)
          clear hX
          go_wp2_with fail
          refine (pick_any b _ 5 _ hRd (by omega) (by omega)).mono ?_
          rintro e w3 ⟨q5, rfl, hq50, hq51, hR3, hg3⟩
          obtain ⟨hX3, hP3, -, hg3'⟩ := keepPickT HX.out.1 HX.out.2.1 HX.out.2.2 h5 h6 hg3 hR3
          have HX3 := hide (And.intro hX3 (And.intro hP3 hg3'))
          obtain ⟨-, hx1, hxf⟩ := cellsT hX3
          have hf1 := hxf 1
          have hXl := heap_ltT hX3
          have HR3 := hide hR3
          clear hX3 hP3 hg3' hg3 hxf HX hRd hR3
          by_cases hq5 : q5 < q0
          · have hd5 : decide (q5 < q0) = true := decide_eq_true hq5
            go_wp2_with (at_builtin; refine wpList_wantedI (by rfl) (wp_push_intI _ _ (by rfl) (w2.heap.size + 1) (.slice A ys.length ca) ys (by rfl) (World.ownsRow.alloc HX3.out.2.1 _) w3.heap.size (t : Int) (by rfl) (heap_alloc_new w3 _) (by omega) (by simp; omega) ?_); intro g' cap w4 hown hgrow; obtain ⟨hX4, hI4⟩ := afterPushT (L := t + 1) HX3.out.1 HX3.out.2.1 HR3.out HX3.out.2.2 h5 h6 hgrow hown (by simp; omega); have HI4 := hide hI4; obtain ⟨-, hx14, hxf4⟩ := cellsT hX4; have hf14 := hxf4 1; clear hI4 hown hgrow hX4 hxf4)
            go_roundw
            case rel => exact ⟨t + 1, htl, by go_num, HI4.out⟩
            case measure => simp [intOf]; omega
          · have hd5 : decide (q5 < q0) = false := decide_eq_false hq5
            go_wp2_with fail
            go_roundw
            case rel => exact ⟨t + 1, htl, by go_num, _, ys, HX3.out.1, HX3.out.2.1, by omega, HR3.out, HX3.out.2.2, h5, h6⟩
            case measure => simp [intOf]; omega
        · obtain rfl : t = L := by omega
          have hd : decide ((t : Int) < t) = false := decide_eq_false (by omega)
          obtain ⟨hx0, hx1, hxf⟩ := cellsT hX
          have HSr := hide (HS2.out.pick HR2.out hblt HX.out.2.2)
          have HGr := hide (HG2.out.trans HX.out.2.2)
          have hzw := HGr.out.size
          have HRd := hide hRd
          have HLO := hide (World.ownsRow.lt HSr.out.1)
          clear hX hxf hRd
          go_wp2_with (at_builtin; refine wpList_wantedI (by rfl) (wp_push_task _ _ (by rfl) w.heap.size (.slice (some ⟨g, 0, none⟩) t c) ps (by rfl) (HSr.out.below ((Below.refl _ _).alloc (Nat.le_refl _) _)) wr.heap.size (⟨q2, ys⟩, .slice A ys.length ca) (by rfl) (heap_alloc_new wr _) ((Aft.of_sl HX.out.2.1).below ((Below.refl _ _).alloc (Nat.le_refl _) _)) (by rw [HLL.out]; omega) (by simp; omega) ?_); intro g' cap w4 hown hgrow; have HOW := hide (And.intro hown (And.intro (rd_grownI (HRd.out.kept (fun j hj => heap_alloc_old wr _ (by have := HRd.out.lt; omega))) hgrow (fun k hk => by have := (HLO.out k hk).1; omega)) (grown_rowI (HGr.out.trans (World.grownBy_alloc wr _ _)) hgrow (fun k hk => (HLO.out k hk).1)))); clear hown hgrow)
          go_roundw
          case rel =>
            obtain ⟨j', rfl⟩ : ∃ j', j = j' + 1 := ⟨j - 1, by omega⟩
            refine ⟨j', ps ++ [(⟨q2, ys⟩, .slice A ys.length ca)], ps.length + 1, g', cap, by omega, by go_num, by rw [HLL.out]; omega, by rfl, hide (by simp), hide (fun p hp => ?_), HOW.out.1, HOW.out.2.1.mono (by rw [HLL.out]; omega), HOW.out.2.2⟩
            rcases List.mem_append.1 hp with hp | hp
            · exact HLE.out p hp
            · obtain rfl : p = (⟨q2, ys⟩, .slice A ys.length ca) := by simpa using hp
              show ys.length ≤ 8
              omega
          case measure => simp [intOf]; omega
    · obtain rfl : j = 0 := by omega
      go_wp2_with fail
      refine (odd_any b _ k _ hRr (by omega) hk).mono ?_
      rintro e w2 ⟨β, rfl, hR2, hg2⟩
      have HS2 := hide (HS.out.pick hRr hblt hg2)
      have HG2 := hide (HGR.out.trans hg2)
      have HR2 := hide hR2
      have hLL : ps.length ≤ 7 := by rw [HLL.out]; omega
      clear hg2 HS HGR hR2 hRr
      cases β with
      | false =>
        go_wp2_with fail
        refine bodyPost_ret (results_tmp rfl _ _ _) rfl ⟨ps, g, c, by rw [HLL.out]; rfl, by rw [HLL.out]; exact HS2.out, by omega, HLE.out, HR2.out.mono (by omega), HG2.out⟩
      | true =>
        go_wp2_with fail
        refine (pick_any b _ 3 _ HR2.out (by omega) (by omega)).mono ?_
        rintro e w3 ⟨q3', rfl, hq30, hq31, hR3, hg3⟩
        have HS3 := hide (HS2.out.pick HR2.out hblt hg3)
        have HG3 := hide (HG2.out.trans hg3)
        have HR3 := hide hR3
        have hz3 := HG3.out.size
        have hl3 := hR3.lt
        clear hg3 HS2 HG2 HR2 hR3
        by_cases hq : q3' = 0
        · subst hq
          have hmk : ∀ w, (Instr.makeSlice 43 (.int .i64 8) (.int .i64 8)).run Tryd.prog w = .ok (.slice (some ⟨w.heap.size, 0, none⟩) 8 8) (w.alloc (.cells (madeCells #[.int .i64 0, .slice none 0 0] 16) 50)) := fun w => make_tasksT 8 (by omega) w
          go_wp2_with fail
          refine bodyPost_ret (results_tmp rfl _ _ _) rfl ⟨List.replicate 8 (⟨0, []⟩, .slice none 0 0), w3.heap.size, 8, rfl, eight_tasks w3 _ hz3, by simp, fun p hp => ?_, (HR3.out.kept (fun j hj => heap_alloc_old w3 _ (by omega))).mono (by omega), HG3.out.trans (World.grownBy_alloc w3 _ _)⟩
          obtain rfl := (List.mem_replicate.1 hp).2
          simp
        · have hqb : (q3' == 0) = false := beq_false_of_ne hq
          by_cases hq1 : q3' = 1
          · subst hq1
            go_wp2_with fail
            have hO : IntSl (w3.alloc (.cells #[.int .i64 0] 3)) w3.heap.size (.slice (some ⟨w3.heap.size, 0, none⟩) 1 1) [0] := World.ownsRow_lit w3 #[.int .i64 0] 1 (Nat.le_refl _) (by unfold maxLen; omega) rfl
            have hA := (Aft.of_sl hO).below (w' := (w3.alloc (.cells #[.int .i64 0] 3)).alloc (.cells #[.int .i64 0, .slice (some ⟨w3.heap.size, 0, none⟩) 1 1] 50)) ((Below.refl _ _).alloc (Nat.le_refl _) _)
            refine bodyPost_ret (results_tmp rfl _ _ _) rfl ⟨[(⟨0, [0]⟩, .slice (some ⟨w3.heap.size, 0, none⟩) 1 1)], w3.heap.size + 1, 1, rfl, task_lit (heap_twoI w3 _ _) (by omega) hA, by simp, fun p hp => ?_, (HR3.out.kept (fun j hj => (heap_alloc_old _ _ (by simp; omega)).trans (heap_alloc_old w3 _ (by omega)))).mono (by omega), (HG3.out.trans (World.grownBy_alloc w3 _ _)).trans (World.grownBy_alloc _ _ _)⟩
            obtain rfl : p = (⟨0, [0]⟩, .slice (some ⟨w3.heap.size, 0, none⟩) 1 1) := by simpa using hp
            simp
          · have hqb1 : (q3' == 1) = false := beq_false_of_ne hq1
            have HPK : Hid (∀ W, Below w3.heap.size w3 W → Calls Tryd.prog 70 #[.pointer (some ⟨b, 0, none⟩), .int .i64 2] W (Picked W b (n + 70) 2)) := hide (fun W hB => pick_any b _ 2 W ((rd_belowI HR3.out hB).mono (by omega)) (by omega) (by omega))
            obtain ⟨M, A9, L9, c9, hmin, hsl1, hsl2, hA9, hrl9⟩ := tail_sliceTk HS3.out
            have HA9 := hide hA9
            have HRL := hide hrl9
            have hL95 : L9 ≤ 7 := by rw [← hrl9, List.length_drop]; omega
            clear hA9 hrl9
            go_wp2_with fail
            go_region_law (first | (refine step_spread_task (by rfl) _ _ (by rfl) w.heap.size (.slice (some ⟨w5.heap.size, 0, none⟩) 1 1) [(⟨u5, []⟩, .slice none 0 0)] (by rfl) (task_lit (heap_alloc_new w5 _) hz5 (Aft.nil _)) (by simp) A9 L9 c9 (ps.drop 1) HRL.out (by rfl) (HA9.out _ (TaskSl.cells (HS5.out.below (by go_grown)))) (fun q hq => (TaskSl.below HS5.out (by go_grown)).2 q (List.mem_of_mem_drop hq)) (by simp <;> omega) (by simp <;> omega) ?_; intro gg cap w6 hown hgrow; have HOW := hide (And.intro hown (end_pushI HG5.out HR5.out (by go_grown) hgrow (Nat.le_refl _))); clear hown hgrow) | (refine step_spread_task (by rfl) _ _ (by rfl) w.heap.size (.slice (some ⟨w5.heap.size + 1, 0, none⟩) 1 1) [(⟨u5, []⟩, .slice none 0 0)] (by rfl) (task_lit (heap_twoI w5 _ _) (by omega) (Aft.nil _)) (by simp) A9 L9 c9 (ps.drop 1) HRL.out (by rfl) (HA9.out _ (TaskSl.cells (HS5.out.below (by go_grown)))) (fun q hq => (TaskSl.below HS5.out (by go_grown)).2 q (List.mem_of_mem_drop hq)) (by simp <;> omega) (by simp <;> omega) ?_; intro gg cap w6 hown hgrow; have HOW := hide (And.intro hown (end_pushI HG5.out HR5.out (by go_grown) hgrow (by show w5.heap.size ≤ w5.heap.size + 1; omega))); clear hown hgrow) | (go_simp; go_at_call 70; refine (HPK.out _ (by go_grown)).mono ?_; rintro e w5 ⟨q5, rfl, hq50, hq51, hR5, hg5⟩; obtain ⟨j5, rfl⟩ : ∃ j5 : Nat, q5 = j5 := ⟨q5.toNat, by omega⟩; have hj5 : (j5 : Int) < 2 := (by omega); have hj6 : j5 < 2 := (by omega); obtain ⟨u5, hu5, hu6, -⟩ := pair_atI (a := -1) (b := 31) hj6; (try have hcA := cellAI hl3 hg5 hu5); have HG5 := hide ((grown_belowI HG3.out (by go_grown)).trans hg5); have HS5 := hide ((TaskSl.below HS3.out (by go_grown)).pick (rd_belowI HR3.out (by go_grown)) hblt hg5); have HR5 := hide hR5; have hz5 := HG5.out.size; have hz35 : w3.heap.size ≤ w5.heap.size := (by have := hg5.size; simp at this; omega); clear hg5 hR5))
            all_goals
              go_wp2_with fail
              refine bodyPost_ret (results_tmp rfl _ _ _) rfl ⟨[(⟨u5, []⟩, .slice none 0 0)] ++ ps.drop 1, gg, cap, by rw [List.length_append, HRL.out]; rfl, by rw [List.length_append, HRL.out]; exact HOW.out.1, by rw [List.length_append, HRL.out]; simp; omega, fun p hp => ?_, HOW.out.2.1.mono (by omega), HOW.out.2.2⟩
              rcases List.mem_append.1 hp with hp | hp
              · obtain rfl : p = (⟨u5, []⟩, .slice none 0 0) := by simpa using hp
                simp
              · exact HLE.out p (List.mem_of_mem_drop hp)
theorem TasksAt.takeT {w : World} {A : Option Addr} {l : List Task} (h : TasksAt w A l) (m : Nat) : TasksAt w A (l.take m) := fun i x hx => by
  rw [List.getElem?_take] at hx
  split at hx
  · exact h i x hx
  · cases hx
def DrawnTk (w : World) (e : Ending) (w' : World) : Prop := ∃ (l : List Task) (g c : Nat), e = .returned (.slice (some ⟨g, 0, none⟩) l.length c) ∧
  TasksAt w' (some ⟨g, 0, none⟩) l ∧ l.length ≤ 8 ∧ l.length ≤ c ∧ c ≤ maxLen ∧ (∀ x ∈ l, x.after.length ≤ 8) ∧ Below w.heap.size w w'
theorem drawn_of {w w1 w2 : World} {b n : Nat} {e : Ending} (h : DrewTk w1 b n e w2) (hb1 : Below w.heap.size w w1) (hb : w.heap.size ≤ b) : DrawnTk w e w2 := by
  obtain ⟨ps, g, c, rfl, hS, hl, hle, -, hg⟩ := h
  obtain ⟨A, c', e, hA⟩ := hS.form
  injection e with e1 e2 e3
  subst e1 e3
  have hc := TaskSl.cap hS
  refine ⟨ps.map Prod.fst, g, c, by rw [List.length_map], hA, by rw [List.length_map]; exact hl, by rw [List.length_map]; exact hc.2.1, hc.2.2.1, fun x hx => ?_, hb1.grown hg hb1.size (fun j hj => by injection hj with hj; omega)⟩
  obtain ⟨p, hp, rfl⟩ := List.mem_map.1 hx
  exact hle p hp
end Go.Proofs.YtgagfaajilbmmaaDoor
