/- The row of steps that the program makes of the tasks: each task's step begins when all that it waits for is done.
   Conditions: the tasks are valid. -/
import Derived.Test.YtgagfaajilbmmaaEarly3
import Derived.Test.YtgagfaajilbmmaaFlow
namespace Go.Proofs.Ytgagfaajilbmmaa
open Go.RowKit Go.ChangeShapes Go.WideShapes Go.ChangeAt Go.Deep

set_option maxRecDepth 100000 in
set_option maxHeartbeats 2000000 in
theorem newStepQ_any (sp : Int) (A : Option Addr) (c : Nat) (bds : List (Nat × Int)) (w : World) (h0 : 0 ≤ sp) (h1 : sp ≤ 30) (hA : StepsAt w A bds) (hl : bds.length ≤ 1048576) (HM : Hid (∀ p ∈ bds, p.2 ≤ 900000)) :
    Calls Try.prog 65 #[.int .i64 sp, .slice A bds.length c] w fun e w' => ∃ g, e = .returned (.pointer (some ⟨g, 0, none⟩)) ∧ w.heap.size ≤ g ∧ StepQ w' g sp (maxFrom 0 (bds.map (·.2))) ∧ Below w.heap.size w w' := by
  go_enter Try.func65, Try.ntmps65
  go_wp2_with fail
  go_loopw [14] (fun i wr => ∃ (k : Nat) (st : Int), k ≤ bds.length ∧ i = .int .i64 k ∧ 0 ≤ st ∧ st ≤ 900000 ∧ Hid (maxFrom 0 (bds.map (·.2)) = maxFrom st ((bds.map (·.2)).drop k)) ∧ wr.cell? ⟨w.heap.size, 0, none⟩ = some (.int .i64 sp) ∧ wr.cell? ⟨w.heap.size, 1, none⟩ = some (.int .i64 st) ∧ wr.frozen? ⟨w.heap.size, 1, none⟩ = false ∧ w.heap.size < wr.heap.size ∧ Below w.heap.size w wr) (fun i _ => bds.length - (intOf i).toNat)
  case atStart => exact ⟨0, 0, Nat.zero_le _, rfl, by omega, by omega, hide rfl, by simp, by simp, by simp, by simp, by go_grown⟩
  case round =>
    obtain ⟨k, st, hk, rfl, hs0, hs1, HG, hc0, hc1, hf1, hsl, hb⟩ := hrel
    have hsz := hb.size
    by_cases hlt : k < bds.length
    · obtain ⟨ab, off, rfl, hbl, hcp, hst⟩ := (hA.below hb) k bds[k] (List.getElem?_eq_getElem hlt)
      have hMb := HM.out _ (List.getElem_mem hlt)
      have HD : Hid ((bds.map (·.2)).drop k = bds[k].2 :: (bds.map (·.2)).drop (k + 1)) := hide (by
        rw [List.drop_eq_getElem_cons (by rw [List.length_map]; exact hlt)]
        simp)
      generalize bds[k] = p at *
      obtain ⟨b, d⟩ := p
      simp only at hcp hst hMb HD
      have hd0 : 0 ≤ d := by obtain ⟨_, _, _, _, a, b', c', _⟩ := hst.ex; omega
      have HDN : Hid (Calls Try.prog 67 #[.pointer (some ⟨b, 0, none⟩)] wr.drew fun e w' => e = .returned (.int .i64 d) ∧ ∃ m, w' = wr.drew.drewN m) := hide (done_any b d wr.drew ⟨hst.lt, hst.ex⟩)
      have HG2 : Hid (maxFrom 0 (bds.map (·.2)) = maxFrom (if st < d then d else st) ((bds.map (·.2)).drop (k + 1))) := hide (by rw [HG.out, HD.out, maxFrom])
      have hz : (0 : Int) ≤ k := by omega
      have hz2 : (k : Int) < bds.length := by omega
      clear hst hbl
      go_wp2_with fail
      go_region_law ((go_simp; go_at_call 67; refine HDN.out.mono ?_; rintro e w5 ⟨rfl, m, rfl⟩))
      all_goals
        go_wp2_with fail
        go_roundw
        case rel =>
          have hbq : Below w.heap.size w (wr.drewN (1 + m)) := ⟨hb.os, hb.tape, hb.output, hb.size, hb.block⟩
          exact ⟨k + 1, if st < d then d else st, hlt, by go_num, by split <;> omega, by split <;> omega, HG2, by simp [go_sem, hc0], by simp [go_sem, hc1], by simp [hf1], by simpa using hsl, by go_grown⟩
        case measure => simp [intOf]; omega
    · have H3 : Hid (maxFrom 0 (bds.map (·.2)) = st) := hide (by rw [HG.out, List.drop_of_length_le (by rw [List.length_map]; omega), maxFrom])
      go_wp2_with fail
      go_ret
      exact ⟨_, rfl, Nat.le_refl _, by rw [H3.out]; exact ⟨hsl, hc0, hc1, h0, hs0, by omega⟩, hb⟩

theorem StepQ.p {w : World} {b : Nat} {sp st : Int} (h : StepQ w b sp st) : StepP w b (st + sp) := ⟨h.lt, sp, st, h.c0, h.c1, h.sp0, h.st0, rfl, h.top⟩

/-- The steps of the first k tasks lie behind the pointers of G, all later than block lo. -/
def StepsUpto (w : World) (lo : Nat) (l : List Task) (ss : List Int) (k : Nat) (G : Nat → Nat) : Prop :=
  ∀ i x s, i < k → l[i]? = some x → ss[i]? = some s → lo < G i ∧ StepQ w (G i) x.span s
theorem StepsUpto.below {w w' : World} {lo k : Nat} {l : List Task} {ss : List Int} {G : Nat → Nat} (h : StepsUpto w lo l ss k G) (hB : Below w.heap.size w w') : StepsUpto w' lo l ss k G :=
  fun i x s hi hx hs => ⟨(h i x s hi hx hs).1, (h i x s hi hx hs).2.below hB⟩
theorem StepsUpto.far {w : World} {lo k g j : Nat} {u : Value} {l : List Task} {ss : List Int} {G : Nat → Nat} (h : StepsUpto w lo l ss k G) (hne : ∀ i, i < k → i < l.length → G i ≠ g) : StepsUpto (w.setCell ⟨g, j, none⟩ u) lo l ss k G :=
  fun i x s hi hx hs => ⟨(h i x s hi hx hs).1, (h i x s hi hx hs).2.far (hne i hi (List.getElem?_eq_some_iff.1 hx).1)⟩

end Go.Proofs.Ytgagfaajilbmmaa
