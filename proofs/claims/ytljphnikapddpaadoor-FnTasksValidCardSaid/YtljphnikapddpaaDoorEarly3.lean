/- Contract of StartsEarly of the reference model: the list of times, one after the other.
   Conditions: the list and each task's numbers have at most 1048576 elements.
   The list of times at which tasks begin as early as they can: its length and its bounds.
   Conditions: the tasks are valid.
   Each time of the list of earliest times is the latest end of what must be done before.
   Conditions: the tasks are valid. -/
import Derived.Test.YtljphnikapddpaaDoorStarts
import Derived.Test.YtljphnikapddpaaDoorPush
import Derived.Test.YtljphnikapddpaaDoorSlKit
import Derived.Test.YtljphnikapddpaaDoorLeast
namespace Go.Proofs.YtljphnikapddpaaDoor
open Go.RowKit

def upTo (l : List Task) (out : List Int) : Int → List Int → Int
  | t, [] => t
  | t, a :: r => upTo l out (if t < out.getD a.toNat 0 + (l.getD a.toNat default).span then out.getD a.toNat 0 + (l.getD a.toNat default).span else t) r
def earlyGo (l : List Task) : List Int → List Task → List Int
  | out, [] => out
  | out, x :: r => earlyGo l (out ++ [upTo l out 0 x.after]) r
def startsEarlyL (l : List Task) : List Int := if tasksOk l = true then earlyGo l [] l else []

end Go.Proofs.YtljphnikapddpaaDoor

namespace Go.Proofs.YtljphnikapddpaaDoor
open Go.RowKit

theorem getD_range {out : List Int} {B : Int} (hB : 0 ≤ B) (h : ∀ t ∈ out, 0 ≤ t ∧ t ≤ B) (i : Nat) : 0 ≤ out.getD i 0 ∧ out.getD i 0 ≤ B := by
  rw [List.getD_eq_getElem?_getD]
  cases e : out[i]? with
  | none => exact ⟨Int.le_refl _, hB⟩
  | some t => exact h t (List.mem_of_getElem? e)

theorem getD_span {l : List Task} (h : ∀ y ∈ l, 0 ≤ y.span ∧ y.span ≤ 30) (i : Nat) : 0 ≤ (l.getD i default).span ∧ (l.getD i default).span ≤ 30 := by
  rw [List.getD_eq_getElem?_getD]
  cases e : l[i]? with
  | none => exact ⟨Int.le_refl _, by show (0 : Int) ≤ 30; omega⟩
  | some t => exact h t (List.mem_of_getElem? e)

theorem upTo_ok {l : List Task} {out : List Int} {B : Int} (hB : 0 ≤ B) (hl : ∀ y ∈ l, 0 ≤ y.span ∧ y.span ≤ 30) (h : ∀ t ∈ out, 0 ≤ t ∧ t ≤ B) : ∀ (xs : List Int) (t : Int), 0 ≤ t → t ≤ B + 30 → 0 ≤ upTo l out t xs ∧ upTo l out t xs ≤ B + 30
  | [], t, h0, h1 => ⟨h0, h1⟩
  | a :: r, t, h0, h1 => by
    have g1 := getD_range hB h a.toNat
    have g2 := getD_span hl a.toNat
    rw [upTo]
    exact upTo_ok hB hl h r _ (by split <;> omega) (by split <;> omega)

theorem earlyGo_len (l : List Task) : ∀ (r : List Task) (out : List Int), (earlyGo l out r).length = out.length + r.length
  | [], out => by simp [earlyGo]
  | x :: r, out => by rw [earlyGo, earlyGo_len l r, List.length_append, List.length_cons, List.length_cons, List.length_nil]; omega

theorem earlyGo_ok {l : List Task} (hl : ∀ y ∈ l, 0 ≤ y.span ∧ y.span ≤ 30) : ∀ (r : List Task) (out : List Int), (∀ t ∈ out, 0 ≤ t ∧ t ≤ 30 * (out.length : Int)) → ∀ t ∈ earlyGo l out r, 0 ≤ t ∧ t ≤ 30 * ((out.length : Int) + r.length)
  | [], out, h, t, ht => by
    have := h t ht
    simp only [List.length_nil]
    omega
  | x :: r, out, h, t, ht => by
    have hu := upTo_ok (B := 30 * (out.length : Int)) (by omega) hl h x.after 0 (by omega) (by omega)
    have := earlyGo_ok hl r (out ++ [upTo l out 0 x.after]) (fun s hs => by
      rw [List.length_append, List.length_cons, List.length_nil]
      rcases List.mem_append.1 hs with e | e
      · have := h s e
        omega
      · obtain rfl : s = upTo l out 0 x.after := by simpa using e
        omega) t (by rw [earlyGo] at ht; exact ht)
    rw [List.length_append, List.length_cons, List.length_nil] at this
    rw [List.length_cons]
    omega

theorem tasks_span {l : List Task} (h : tasksOk l = true) : ∀ y ∈ l, 0 ≤ y.span ∧ y.span ≤ 30 := fun y hy => by
  obtain ⟨i, hi⟩ := List.mem_iff_getElem?.1 hy
  exact (tasksOk_at h hi).1

theorem startsEarlyL_len {l : List Task} (h : tasksOk l = true) : (startsEarlyL l).length = l.length := by
  unfold startsEarlyL
  rw [if_pos h, earlyGo_len]
  simp

theorem startsEarlyL_ok {l : List Task} (h : tasksOk l = true) : ∀ t ∈ startsEarlyL l, 0 ≤ t ∧ t ≤ 210 := fun t ht => by
  unfold startsEarlyL at ht
  rw [if_pos h] at ht
  have := earlyGo_ok (tasks_span h) l [] (fun s hs => by simp at hs) t ht
  have h7 := tasksOk_len h
  simp only [List.length_nil] at this
  omega

theorem startsEarlyL_le (l : List Task) : (startsEarlyL l).length ≤ 1048576 := by
  by_cases h : tasksOk l = true
  · rw [startsEarlyL_len h]
    have := tasksOk_len h
    omega
  · unfold startsEarlyL
    rw [if_neg h]
    simp

/-- When each task is done. -/
def donesL (l : List Task) : List Int := List.zipWith (fun s x => s + x.span) (startsEarlyL l) l
def tasksEndL (l : List Task) : Int := if tasksOk l = true then maxFrom 0 (donesL l) else -1

end Go.Proofs.YtljphnikapddpaaDoor

namespace Go.Proofs.YtljphnikapddpaaDoor
open Go.RowKit

theorem upTo_eq (l : List Task) (out : List Int) : ∀ (xs : List Int) (t : Int), upTo l out t xs = maxFrom t (xs.map (fun a => out.getD a.toNat 0 + (l.getD a.toNat default).span))
  | [], _ => rfl
  | a :: r, t => by rw [upTo, List.map_cons, maxFrom, upTo_eq l out r]

theorem upTo_congr (l : List Task) (out out' : List Int) : ∀ (xs : List Int) (t : Int), (∀ a ∈ xs, out.getD a.toNat 0 = out'.getD a.toNat 0) → upTo l out t xs = upTo l out' t xs
  | [], _, _ => rfl
  | a :: r, t, h => by
    rw [upTo, upTo, h a (List.mem_cons_self ..)]
    exact upTo_congr l out out' r _ (fun b hb => h b (List.mem_cons_of_mem _ hb))

theorem earlyGo_prefix (l : List Task) : ∀ (r : List Task) (out : List Int), ∃ t, earlyGo l out r = out ++ t
  | [], out => ⟨[], by simp [earlyGo]⟩
  | x :: r, out => by
    obtain ⟨t, ht⟩ := earlyGo_prefix l r (out ++ [upTo l out 0 x.after])
    exact ⟨upTo l out 0 x.after :: t, by rw [earlyGo, ht]; simp⟩

theorem earlyGo_at (l : List Task) : ∀ (r : List Task) (out : List Int) (k : Nat) (x : Task), r[k]? = some x → (earlyGo l out r)[out.length + k]? = some (upTo l ((earlyGo l out r).take (out.length + k)) 0 x.after)
  | [], _, k, x, h => by simp at h
  | y :: r, out, 0, x, h => by
    obtain rfl : y = x := by simpa using h
    obtain ⟨t, ht⟩ := earlyGo_prefix l r (out ++ [upTo l out 0 y.after])
    rw [earlyGo, ht]
    simp
  | y :: r, out, k + 1, x, h => by
    have := earlyGo_at l r (out ++ [upTo l out 0 y.after]) k x (by simpa using h)
    rw [List.length_append, List.length_cons, List.length_nil, show out.length + (0 + 1) + k = out.length + (k + 1) from by omega] at this
    rw [earlyGo]
    exact this

theorem startsEarlyL_at {l : List Task} (h : tasksOk l = true) {k : Nat} {x : Task} (hx : l[k]? = some x) :
    (startsEarlyL l)[k]? = some (maxFrom 0 (x.after.map (fun a => (startsEarlyL l).getD a.toNat 0 + (l.getD a.toNat default).span))) := by
  have hr := (tasksOk_at h hx).2
  have e := earlyGo_at l l [] k x hx
  rw [List.length_nil, Nat.zero_add] at e
  have hs : startsEarlyL l = earlyGo l [] l := by unfold startsEarlyL; rw [if_pos h]
  rw [← upTo_eq, hs, e]
  congr 1
  refine upTo_congr l _ _ _ _ (fun a ha => ?_)
  have := hr a ha
  simp only [List.getD_eq_getElem?_getD, List.getElem?_take]
  rw [if_pos (by omega)]

/-- Block b is a step of sp minutes that begins at st. -/
structure StepQ (w : World) (b : Nat) (sp st : Int) : Prop where
  lt : b < w.heap.size
  c0 : w.cell? ⟨b, 0, none⟩ = some (.int .i64 sp)
  c1 : w.cell? ⟨b, 1, none⟩ = some (.int .i64 st)
  sp0 : 0 ≤ sp
  st0 : 0 ≤ st
  top : st + sp ≤ 1000000
theorem StepQ.below {w w' : World} {b : Nat} {sp st : Int} (h : StepQ w b sp st) (hB : Below w.heap.size w w') : StepQ w' b sp st :=
  ⟨Nat.lt_of_lt_of_le h.lt hB.size, (hB.cell h.lt).trans h.c0, (hB.cell h.lt).trans h.c1, h.sp0, h.st0, h.top⟩
theorem StepQ.far {w : World} {b g j : Nat} {u : Value} {sp st : Int} (h : StepQ w b sp st) (hne : b ≠ g) : StepQ (w.setCell ⟨g, j, none⟩ u) b sp st :=
  have hb := heap_other (w := w) (g := g) (j := j) (u := u) hne
  ⟨by simpa using h.lt, (World.cell?_of_block (a := ⟨b, 0, none⟩) hb).trans h.c0, (World.cell?_of_block (a := ⟨b, 1, none⟩) hb).trans h.c1, h.sp0, h.st0, h.top⟩

end Go.Proofs.YtljphnikapddpaaDoor
