/- Contract of StartsEarly of the program: the starts of its steps.
   Conditions: the list and each task's numbers have at most 1048576 elements. -/
import Derived.Test.YteloapholoechaaDoorSteps2
namespace Go.Proofs.YteloapholoechaaDoor
open Go.RowKit Go.ChangeShapes Go.WideShapes Go.ChangeAt Go.Deep

set_option maxHeartbeats 1000000 in
theorem startsOf_any (g n c : Nat) (G : Nat → Nat) (ss : List Int) (w : World) (hR : PtrRow w g n n G) (hQ : ∀ i s, ss[i]? = some s → ∃ sp, StepQ w (G i) sp s) (hs : ss.length = n) (hl : n ≤ 1048576) :
    Calls Tryd.prog 83 #[.slice (some ⟨g, 0, none⟩) n c] w fun e w' => e = .returned (.slice (some ⟨w.heap.size, 0, none⟩) n n) ∧ OwnInts w' w.heap.size ss ∧ Below w.heap.size w w' := by
  subst hs
  have hmk := make_ints ss.length hl
  have HQ := hide hQ
  have HR := hide hR
  have hgl := World.rowIs.lt hR
  clear hQ hR
  go_enter Tryd.func83, Tryd.ntmps83
  go_wp2_with fail
  clear hmk
  go_loopw [11] (fun i wr => ∃ k : Nat, k ≤ ss.length ∧ i = .int .i64 k ∧ wr.rowIs w.heap.size 3 ss.length (fun j => if j < k then .int .i64 (ss.getD j 0) else .int .i64 0) ∧ Below w.heap.size w wr) (fun i _ => ss.length - (intOf i).toNat)
  case atStart => exact ⟨0, Nat.zero_le _, rfl, (World.rowIs_made _ _ _ _).congr (fun i hi => by simp), by go_grown⟩
  case round =>
    obtain ⟨k, hk, rfl, hrow, hb⟩ := hrel
    have hsz := hb.size
    by_cases hlt : k < ss.length
    · have hcp := (hb.cell (p := ⟨g, k, none⟩) hgl).trans (PtrRow.at_ HR.out hlt hlt)
      obtain ⟨sp, hq⟩ := HQ.out k ss[k] (List.getElem?_eq_getElem hlt)
      have hc1 := (hb.cell (p := ⟨G k, 1, none⟩) hq.lt).trans hq.c1
      have HP : Hid (ss.getD k 0 = ss[k]) := hide (by simp [hlt])
      generalize ss[k] = p at *
      generalize G k = b at *
      have hz : (0 : Int) ≤ k := by omega
      have hz2 : (k : Int) < ss.length := by omega
      have hq1 := hrow.cell hlt
      have hf := hrow.frozen
      have hglt := hrow.lt
      clear hq
      go_wp2_with fail
      go_roundw
      case rel =>
        refine ⟨k + 1, hlt, by go_num, (hrow.set k _).congr (fun j hj => ?_), by go_grown⟩
        by_cases h : j = k
        · subst h
          rw [if_pos rfl, if_pos (by omega), HP.out]
        · rw [if_neg h]
          by_cases h' : j < k
          · rw [if_pos h', if_pos (by omega)]
          · rw [if_neg h', if_neg (by omega)]
      case measure => simp [intOf]; omega
    · have hz2 : ¬ (k : Int) < ss.length := by omega
      go_wp2_with fail
      go_ret
      exact ⟨rfl, hrow.congr (fun i hi => if_pos (by omega)), by go_grown⟩

set_option maxHeartbeats 1000000 in
theorem implStartsEarly_any (A : Option Addr) (c : Nat) (l : List Task) (w : World) (hA : TasksAt w A l) (hl : l.length ≤ 1048576) (hp : ∀ x ∈ l, x.after.length ≤ 1048576) :
    Calls Tryd.prog 42 #[.slice A l.length c] w fun e w' => ∃ v, e = .returned v ∧ IntSl w' w.heap.size v (startsEarlyL l) ∧ Below w.heap.size w w' := by
  have HP := hide hp
  clear hp
  cases hI : tasksOk l with
  | false =>
    have HI := hide hI
    have H0 : Hid (startsEarlyL l = []) := hide (by unfold startsEarlyL; rw [hI]; rfl)
    clear hI
    go_enter Tryd.func42, Tryd.ntmps42
    go_wp2_with fail
    refine (implTasksValid_any _ _ _ _ hA hl HP.out).mono ?_
    rintro e w1 ⟨rfl, hB1⟩
    rw [HI.out]
    go_wp2_with fail
    refine bodyPost_ret (results_tmp rfl _ _ _) rfl ⟨.slice none 0 0, rfl, by rw [H0.out]; exact World.ownsRow_nil _ _ _ _, hB1⟩
  | true =>
    have HI := hide hI
    have HL := hide (startsEarlyL_len hI)
    clear hI
    go_enter Tryd.func42, Tryd.ntmps42
    go_wp2_with fail
    refine (implTasksValid_any _ _ _ _ hA hl HP.out).mono ?_
    rintro e w1 ⟨rfl, hB1⟩
    rw [HI.out]
    have hsz1 := hB1.size
    go_wp2_with fail
    refine (stepsOf_any _ _ _ _ (hA.below hB1) HI HP.out).mono ?_
    rintro e w2 ⟨rfl, ⟨G, hR, hU⟩, hB2⟩
    have hb2 := next hB1 hB2
    have hsz2 := hb2.size
    have hS := startsOf_any w1.heap.size l.length l.length G (startsEarlyL l) w2 hR (fun i s hs => by
      have hi : i < l.length := by have := (List.getElem?_eq_some_iff.1 hs).1; rw [HL.out] at this; exact this
      exact ⟨_, (hU i l[i] s hi (List.getElem?_eq_getElem hi) hs).2⟩) HL.out hl
    have HS := hide hS
    clear hS hR hU
    go_wp2_with fail
    refine HS.out.mono ?_
    rintro e w3 ⟨rfl, hO, hB3⟩
    have hb3 := next hb2 hB3
    have HO : Hid (IntSl w3 w.heap.size (.slice (some ⟨w2.heap.size, 0, none⟩) l.length l.length) (startsEarlyL l)) := hide (by
      have := hO.sl hsz2 (by rw [HL.out]; exact hl)
      rwa [HL.out] at this)
    clear hO
    go_wp2_with fail
    refine bodyPost_ret (results_tmp rfl _ _ _) rfl ⟨.slice (some ⟨w2.heap.size, 0, none⟩) l.length l.length, rfl, HO.out, hb3⟩
end Go.Proofs.YteloapholoechaaDoor
