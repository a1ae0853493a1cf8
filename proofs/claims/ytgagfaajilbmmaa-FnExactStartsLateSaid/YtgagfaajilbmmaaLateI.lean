/- LateI: contract of StartsLate of the program.
   Conditions: lists have at most 1048576 elements. -/
import Derived.Test.YtgagfaajilbmmaaStartsE
import Derived.Test.YtgagfaajilbmmaaEnds
import Derived.Test.YtgagfaajilbmmaaDelay
namespace Go.Proofs.Ytgagfaajilbmmaa
open Go.RowKit Go.ChangeShapes Go.WideShapes Go.ChangeAt Go.Deep

set_option maxHeartbeats 1000000 in
theorem implStartsLate_any (A : Option Addr) (c : Nat) (l : List Task) (w : World) (hA : TasksAt w A l) (hl : l.length ≤ 1048576) (hp : ∀ x ∈ l, x.after.length ≤ 1048576) :
    Calls Try.prog 18 #[.slice A l.length c] w fun e w' => ∃ v, e = .returned v ∧ IntSl w' w.heap.size v (startsLateL l) ∧ Below w.heap.size w w' := by
  have HP := hide hp
  clear hp
  cases hI : tasksOk l with
  | false =>
    have HI := hide hI
    have H0 := hide (late_no hI)
    clear hI
    go_enter Try.func18, Try.ntmps18
    go_wp2_with fail
    refine (implTasksValid_any _ _ _ _ hA hl HP.out).mono ?_
    rintro e w1 ⟨rfl, hB1⟩
    rw [HI.out]
    go_wp2_with fail
    refine bodyPost_ret (results_tmp rfl _ _ _) rfl ⟨.slice none 0 0, rfl, by rw [H0.out]; exact World.ownsRow_nil _ _ _ _, hB1⟩
  | true =>
    have HI := hide hI
    have HL := hide (late_len hI)
    have HE : Hid (maxFrom 0 (donesL l) = tasksEndL l) := hide (by unfold tasksEndL; rw [if_pos hI])
    have HV : Hid (lateGo l l.length (l.map (fun x => tasksEndL l - x.span)) = startsLateL l) := hide (by unfold startsLateL; rw [if_pos hI])
    have HR := hide (late_rng hI)
    have HS := hide (tasks_span hI)
    have he0 := end_nn hI
    have he1 := end_top hI
    clear hI
    go_enter Try.func18, Try.ntmps18
    go_wp2_with fail
    refine (implTasksValid_any _ _ _ _ hA hl HP.out).mono ?_
    rintro e w1 ⟨rfl, hB1⟩
    rw [HI.out]
    have hsz1 := hB1.size
    go_wp2_with fail
    refine (stepsOfR_any _ _ _ _ (hA.below hB1) HI HP.out).mono ?_
    rintro e w2 ⟨rfl, ⟨G, H, hR, hU⟩, hB2⟩
    have hb2 := next hB1 hB2
    have hE := endOf_any _ l.length _ w2 (endsOf_at hR (hU.upto HS.out (startsEarlyL_ok HI.out)) (startsEarlyL_len HI.out)) (by rw [endsOf_len]; exact hl)
    rw [endsOf_len, endsOf_dones (startsEarlyL_len HI.out), show maxFrom 0 (List.zipWith (fun s x => s + x.span) (startsEarlyL l) l) = tasksEndL l from HE.out] at hE
    have HQ := hide hE
    have HP2 := hide hR
    have HS2 := hide hU
    clear hE hR hU
    go_wp2_with fail
    refine HQ.out.mono ?_
    rintro e w3 ⟨rfl, hB3⟩
    have hb3 := next hb2 hB3
    have hD := delay_any w1.heap.size l.length l _ G H (tasksEndL l) w3 HI (HP2.out.below hB3) (HS2.out.below hB3) (hide (startsEarlyL_len HI.out)) he0 he1 HP
    rw [HV.out] at hD
    have HD := hide hD
    clear hD
    go_wp2_with fail
    refine HD.out.mono ?_
    rintro e w4 ⟨rfl, hP4, hS4, hB4⟩
    have hb4 := hb3.trans (hB4.mono hsz1)
    have hsz4 := hb4.size
    have hS := startsOf_any w1.heap.size l.length l.length G (startsLateL l) w4 hP4 (fun i s hs => by
      have hi : i < l.length := by have := (List.getElem?_eq_some_iff.1 hs).1; rw [HL.out] at this; exact this
      exact ⟨_, (hS4.upto HS.out HR.out i l[i] s hi (List.getElem?_eq_getElem hi) hs).2⟩) HL.out hl
    have HO2 := hide hS
    clear hS hP4 hS4
    go_wp2_with fail
    refine HO2.out.mono ?_
    rintro e w5 ⟨rfl, hO, hB5⟩
    have hb5 := next hb4 hB5
    have HO : Hid (IntSl w5 w.heap.size (.slice (some ⟨w4.heap.size, 0, none⟩) l.length l.length) (startsLateL l)) := hide (by
      have := hO.sl hsz4 (by rw [HL.out]; exact hl)
      rwa [HL.out] at this)
    clear hO
    go_wp2_with fail
    refine bodyPost_ret (results_tmp rfl _ _ _) rfl ⟨.slice (some ⟨w4.heap.size, 0, none⟩) l.length l.length, rfl, HO.out, hb5⟩
end Go.Proofs.Ytgagfaajilbmmaa
