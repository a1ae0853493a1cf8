/- Contract of StartsEarly of the program: the starts of its steps.
   Conditions: the list and each task's numbers have at most 1048576 elements. -/
import Derived.Test.YtgagfaajilbmmaaSteps2
namespace Go.Proofs.Ytgagfaajilbmmaa
open Go.RowKit Go.ChangeShapes Go.WideShapes Go.ChangeAt Go.Deep

set_option maxHeartbeats 1000000 in
theorem startsOf_any (g n c : Nat) (G : Nat → Nat) (ss : List Int) (w : World) (hR : PtrRow w g n n G) (hQ : ∀ i s, ss[i]? = some s → ∃ sp, StepQ w (G i) sp s) (hs : ss.length = n) (hl : n ≤ 1048576) :
    Calls Try.prog 44 #[.slice (some ⟨g, 0, none⟩) n c] w fun e w' => e = .returned (.slice (some ⟨w.heap.size, 0, none⟩) n n) ∧ OwnInts w' w.heap.size ss ∧ Below w.heap.size w w' := by
  subst hs
  have hmk := make_ints ss.length hl
  have HQ := hide hQ
  have HR := hide hR
  have hgl := World.rowIs.lt hR
  clear hQ hR
  go_enter Try.func44, Try.ntmps44
  go_wp2_with fail
  clear hmk
  go_loopw [11] (fun i wr => ∃ k : Nat, k ≤ ss.length ∧ i = .int .i64 k ∧ wr.rowIs w.heap.size 3 ss.length (fun j => if j < k then .int .i64 (ss.getD j 0) else .int .i64 0) ∧ Below w.heap.size w wr) (fun i _ => ss.length - (intOf i).toNat)
  case atStart => exact ⟨0, Nat.zero_le _, rfl, (World.rowIs_made _ _ _ _).congr (fun i hi => by simp), by go_grown⟩
  case round =>
    obtain ⟨k, hk, rfl, hrow, hb⟩ := hrel
    have hsz := hb.size
    by_cases hlt : k < ss.length
    · have hcp := (hb.cell (p := ⟨g, k, none⟩) hgl).trans (PtrRow.at_ HR.out hlt hlt)
      obtain ⟨sp, hq⟩ := HQ.out k ss[k] (List.getElem?_eq_getElem hlt)
      have hc1 := (hb.cell (p := ⟨G k, 1, none⟩) hq.lt).trans hq.c1
      have HP : Hid (ss.getD k 0 = ss[k]) := hide (by simp [hlt])
      generalize ss[k] = p at *
      generalize G k = b at *
      have hz : (0 : Int) ≤ k := by omega
      have hz2 : (k : Int) < ss.length := by omega
      have hq1 := hrow.cell hlt
      have hf := hrow.frozen
      have hglt := hrow.lt
      clear hq
      go_wp2_with fail
      go_roundw
      case rel =>
        refine ⟨k + 1, hlt, by go_num, (hrow.set k _).congr (fun j hj => ?_), by go_grown⟩
        by_cases h : j = k
        · subst h
          rw [if_pos rfl, if_pos (by omega), HP.out]
        · rw [if_neg h]
          by_cases h' : j < k
          · rw [if_pos h', if_pos (by omega)]
          · rw [if_neg h', if_neg (by omega)]
      case measure => simp [intOf]; omega
    · have hz2 : ¬ (k : Int) < ss.length := by omega
      go_wp2_with fail
      go_ret
      exact ⟨rfl, hrow.congr (fun i hi => if_pos (by omega)), by go_grown⟩

end Go.Proofs.Ytgagfaajilbmmaa
