/- Each time of the list of earliest times is the latest end of what must be done before.
   Conditions: the tasks are valid. -/
import Derived.Test.YtdlbcadgomegoaaEarly2
namespace Go.Proofs.Ytdlbcadgomegoaa
open Go.RowKit

theorem upTo_eq (l : List Task) (out : List Int) : ∀ (xs : List Int) (t : Int), upTo l out t xs = maxFrom t (xs.map (fun a => out.getD a.toNat 0 + (l.getD a.toNat default).span))
  | [], _ => rfl
  | a :: r, t => by rw [upTo, List.map_cons, maxFrom, upTo_eq l out r]

theorem upTo_congr (l : List Task) (out out' : List Int) : ∀ (xs : List Int) (t : Int), (∀ a ∈ xs, out.getD a.toNat 0 = out'.getD a.toNat 0) → upTo l out t xs = upTo l out' t xs
  | [], _, _ => rfl
  | a :: r, t, h => by
    rw [upTo, upTo, h a (List.mem_cons_self ..)]
    exact upTo_congr l out out' r _ (fun b hb => h b (List.mem_cons_of_mem _ hb))

theorem earlyGo_prefix (l : List Task) : ∀ (r : List Task) (out : List Int), ∃ t, earlyGo l out r = out ++ t
  | [], out => ⟨[], by simp [earlyGo]⟩
  | x :: r, out => by
    obtain ⟨t, ht⟩ := earlyGo_prefix l r (out ++ [upTo l out 0 x.after])
    exact ⟨upTo l out 0 x.after :: t, by rw [earlyGo, ht]; simp⟩

theorem earlyGo_at (l : List Task) : ∀ (r : List Task) (out : List Int) (k : Nat) (x : Task), r[k]? = some x → (earlyGo l out r)[out.length + k]? = some (upTo l ((earlyGo l out r).take (out.length + k)) 0 x.after)
  | [], _, k, x, h => by simp at h
  | y :: r, out, 0, x, h => by
    obtain rfl : y = x := by simpa using h
    obtain ⟨t, ht⟩ := earlyGo_prefix l r (out ++ [upTo l out 0 y.after])
    rw [earlyGo, ht]
    simp
  | y :: r, out, k + 1, x, h => by
    have := earlyGo_at l r (out ++ [upTo l out 0 y.after]) k x (by simpa using h)
    rw [List.length_append, List.length_cons, List.length_nil, show out.length + (0 + 1) + k = out.length + (k + 1) from by omega] at this
    rw [earlyGo]
    exact this

theorem startsEarlyL_at {l : List Task} (h : tasksOk l = true) {k : Nat} {x : Task} (hx : l[k]? = some x) :
    (startsEarlyL l)[k]? = some (maxFrom 0 (x.after.map (fun a => (startsEarlyL l).getD a.toNat 0 + (l.getD a.toNat default).span))) := by
  have hr := (tasksOk_at h hx).2
  have e := earlyGo_at l l [] k x hx
  rw [List.length_nil, Nat.zero_add] at e
  have hs : startsEarlyL l = earlyGo l [] l := by unfold startsEarlyL; rw [if_pos h]
  rw [← upTo_eq, hs, e]
  congr 1
  refine upTo_congr l _ _ _ _ (fun a ha => ?_)
  have := hr a ha
  simp only [List.getD_eq_getElem?_getD, List.getElem?_take]
  rw [if_pos (by omega)]

/-- Block b is a step of sp minutes that begins at st. -/
structure StepQ (w : World) (b : Nat) (sp st : Int) : Prop where
  lt : b < w.heap.size
  c0 : w.cell? ⟨b, 0, none⟩ = some (.int .i64 sp)
  c1 : w.cell? ⟨b, 1, none⟩ = some (.int .i64 st)
  sp0 : 0 ≤ sp
  st0 : 0 ≤ st
  top : st + sp ≤ 1000000
theorem StepQ.below {w w' : World} {b : Nat} {sp st : Int} (h : StepQ w b sp st) (hB : Below w.heap.size w w') : StepQ w' b sp st :=
  ⟨Nat.lt_of_lt_of_le h.lt hB.size, (hB.cell h.lt).trans h.c0, (hB.cell h.lt).trans h.c1, h.sp0, h.st0, h.top⟩
theorem StepQ.far {w : World} {b g j : Nat} {u : Value} {sp st : Int} (h : StepQ w b sp st) (hne : b ≠ g) : StepQ (w.setCell ⟨g, j, none⟩ u) b sp st :=
  have hb := heap_other (w := w) (g := g) (j := j) (u := u) hne
  ⟨by simpa using h.lt, (World.cell?_of_block (a := ⟨b, 0, none⟩) hb).trans h.c0, (World.cell?_of_block (a := ⟨b, 1, none⟩) hb).trans h.c1, h.sp0, h.st0, h.top⟩

theorem infoStepP : (Try.prog.info? 100).map (fun i => (i.zero, i.size, i.bytes)) = some (some (.pointer none), 1, 8) := by kernel_rfl

theorem make_steps (n : Nat) (hn : n ≤ 1048576) (w : World) :
    (Instr.makeSlice 91 (.int .i64 (n : Int)) (.int .i64 (n : Int))).run Try.prog w = .ok (.slice (some ⟨w.heap.size, 0, none⟩) n n) (w.alloc (.cells (madeCells #[.pointer none] n) 100)) :=
  run_make_row' 91 100 (.pointer none) 8 Try.underlying91 infoStepP rfl .i64 .i64 n (by omega) (by omega) w

/-- Block g is the call's own row of n pointers, the first k of them to the steps of G. -/
def PtrRow (w : World) (g n k : Nat) (G : Nat → Nat) : Prop := w.rowIs g 100 n (fun j => if j < k then .pointer (some ⟨G j, 0, none⟩) else .pointer none)

theorem PtrRow.made (w : World) (n : Nat) (G : Nat → Nat) : PtrRow (w.alloc (.cells (madeCells #[.pointer none] n) 100)) w.heap.size n 0 G :=
  (World.rowIs_made w (.pointer none) n 100).congr (fun j hj => by rw [if_neg (by omega)])

theorem PtrRow.step {w : World} {g n k b : Nat} {G : Nat → Nat} (h : PtrRow w g n k G) : PtrRow (w.setCell ⟨g, k, none⟩ (.pointer (some ⟨b, 0, none⟩))) g n (k + 1) (fun i => if i = k then b else G i) :=
  (World.rowIs.set h k _).congr (fun j hj => by
    by_cases e : j = k
    · subst e
      simp
    · by_cases e2 : j < k
      · simp [e, e2, show j < k + 1 by omega]
      · simp [e, e2, show ¬ j < k + 1 by omega])
end Go.Proofs.Ytdlbcadgomegoaa
