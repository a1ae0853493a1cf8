/- The list of times at which tasks begin as early as they can: its length and its bounds.
   Conditions: the tasks are valid. -/
import Derived.Test.YtdlbcadgomegoaaEarly
import Derived.Test.YtdlbcadgomegoaaLeast
namespace Go.Proofs.Ytdlbcadgomegoaa
open Go.RowKit

theorem getD_range {out : List Int} {B : Int} (hB : 0 ≤ B) (h : ∀ t ∈ out, 0 ≤ t ∧ t ≤ B) (i : Nat) : 0 ≤ out.getD i 0 ∧ out.getD i 0 ≤ B := by
  rw [List.getD_eq_getElem?_getD]
  cases e : out[i]? with
  | none => exact ⟨Int.le_refl _, hB⟩
  | some t => exact h t (List.mem_of_getElem? e)

theorem getD_span {l : List Task} (h : ∀ y ∈ l, 0 ≤ y.span ∧ y.span ≤ 30) (i : Nat) : 0 ≤ (l.getD i default).span ∧ (l.getD i default).span ≤ 30 := by
  rw [List.getD_eq_getElem?_getD]
  cases e : l[i]? with
  | none => exact ⟨Int.le_refl _, by show (0 : Int) ≤ 30; omega⟩
  | some t => exact h t (List.mem_of_getElem? e)

theorem upTo_ok {l : List Task} {out : List Int} {B : Int} (hB : 0 ≤ B) (hl : ∀ y ∈ l, 0 ≤ y.span ∧ y.span ≤ 30) (h : ∀ t ∈ out, 0 ≤ t ∧ t ≤ B) : ∀ (xs : List Int) (t : Int), 0 ≤ t → t ≤ B + 30 → 0 ≤ upTo l out t xs ∧ upTo l out t xs ≤ B + 30
  | [], t, h0, h1 => ⟨h0, h1⟩
  | a :: r, t, h0, h1 => by
    have g1 := getD_range hB h a.toNat
    have g2 := getD_span hl a.toNat
    rw [upTo]
    exact upTo_ok hB hl h r _ (by split <;> omega) (by split <;> omega)

theorem earlyGo_len (l : List Task) : ∀ (r : List Task) (out : List Int), (earlyGo l out r).length = out.length + r.length
  | [], out => by simp [earlyGo]
  | x :: r, out => by rw [earlyGo, earlyGo_len l r, List.length_append, List.length_cons, List.length_cons, List.length_nil]; omega

theorem earlyGo_ok {l : List Task} (hl : ∀ y ∈ l, 0 ≤ y.span ∧ y.span ≤ 30) : ∀ (r : List Task) (out : List Int), (∀ t ∈ out, 0 ≤ t ∧ t ≤ 30 * (out.length : Int)) → ∀ t ∈ earlyGo l out r, 0 ≤ t ∧ t ≤ 30 * ((out.length : Int) + r.length)
  | [], out, h, t, ht => by
    have := h t ht
    simp only [List.length_nil]
    omega
  | x :: r, out, h, t, ht => by
    have hu := upTo_ok (B := 30 * (out.length : Int)) (by omega) hl h x.after 0 (by omega) (by omega)
    have := earlyGo_ok hl r (out ++ [upTo l out 0 x.after]) (fun s hs => by
      rw [List.length_append, List.length_cons, List.length_nil]
      rcases List.mem_append.1 hs with e | e
      · have := h s e
        omega
      · obtain rfl : s = upTo l out 0 x.after := by simpa using e
        omega) t (by rw [earlyGo] at ht; exact ht)
    rw [List.length_append, List.length_cons, List.length_nil] at this
    rw [List.length_cons]
    omega

theorem tasks_span {l : List Task} (h : tasksOk l = true) : ∀ y ∈ l, 0 ≤ y.span ∧ y.span ≤ 30 := fun y hy => by
  obtain ⟨i, hi⟩ := List.mem_iff_getElem?.1 hy
  exact (tasksOk_at h hi).1

theorem startsEarlyL_len {l : List Task} (h : tasksOk l = true) : (startsEarlyL l).length = l.length := by
  unfold startsEarlyL
  rw [if_pos h, earlyGo_len]
  simp

theorem startsEarlyL_ok {l : List Task} (h : tasksOk l = true) : ∀ t ∈ startsEarlyL l, 0 ≤ t ∧ t ≤ 210 := fun t ht => by
  unfold startsEarlyL at ht
  rw [if_pos h] at ht
  have := earlyGo_ok (tasks_span h) l [] (fun s hs => by simp at hs) t ht
  have h7 := tasksOk_len h
  simp only [List.length_nil] at this
  omega

theorem startsEarlyL_le (l : List Task) : (startsEarlyL l).length ≤ 1048576 := by
  by_cases h : tasksOk l = true
  · rw [startsEarlyL_len h]
    have := tasksOk_len h
    omega
  · unfold startsEarlyL
    rw [if_neg h]
    simp

/-- When each task is done. -/
def donesL (l : List Task) : List Int := List.zipWith (fun s x => s + x.span) (startsEarlyL l) l
def tasksEndL (l : List Task) : Int := if tasksOk l = true then maxFrom 0 (donesL l) else -1

end Go.Proofs.Ytdlbcadgomegoaa
