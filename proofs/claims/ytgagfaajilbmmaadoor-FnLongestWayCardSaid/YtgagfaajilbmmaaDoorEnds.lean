/- Contract of StartsEarly of the program: the starts of its steps.
   Conditions: the list and each task's numbers have at most 1048576 elements.
   Contract of TasksEnd of the program: the latest end of its steps.
   Conditions: the list and each task's numbers have at most 1048576 elements. -/
import Derived.Test.YtgagfaajilbmmaaDoorSteps
namespace Go.Proofs.YtgagfaajilbmmaaDoor
open Go.RowKit Go.ChangeShapes Go.WideShapes Go.ChangeAt Go.Deep

set_option maxHeartbeats 1000000 in
theorem startsOf_any (g n c : Nat) (G : Nat → Nat) (ss : List Int) (w : World) (hR : PtrRow w g n n G) (hQ : ∀ i s, ss[i]? = some s → ∃ sp, StepQ w (G i) sp s) (hs : ss.length = n) (hl : n ≤ 1048576) :
    Calls Tryd.prog 72 #[.slice (some ⟨g, 0, none⟩) n c] w fun e w' => e = .returned (.slice (some ⟨w.heap.size, 0, none⟩) n n) ∧ OwnInts w' w.heap.size ss ∧ Below w.heap.size w w' := by
  subst hs
  have hmk := make_ints ss.length hl
  have HQ := hide hQ
  have HR := hide hR
  have hgl := World.rowIs.lt hR
  clear hQ hR
  go_enter Tryd.func72, Tryd.ntmps72
  go_wp2_with fail
  clear hmk
  go_loopw [11] (fun i wr => ∃ k : Nat, k ≤ ss.length ∧ i = .int .i64 k ∧ wr.rowIs w.heap.size 3 ss.length (fun j => if j < k then .int .i64 (ss.getD j 0) else .int .i64 0) ∧ Below w.heap.size w wr) (fun i _ => ss.length - (intOf i).toNat)
  case atStart => exact ⟨0, Nat.zero_le _, rfl, (World.rowIs_made _ _ _ _).congr (fun i hi => by simp), by go_grown⟩
  case round =>
    obtain ⟨k, hk, rfl, hrow, hb⟩ := hrel
    have hsz := hb.size
    by_cases hlt : k < ss.length
    · have hcp := (hb.cell (p := ⟨g, k, none⟩) hgl).trans (PtrRow.at_ HR.out hlt hlt)
      obtain ⟨sp, hq⟩ := HQ.out k ss[k] (List.getElem?_eq_getElem hlt)
      have hc1 := (hb.cell (p := ⟨G k, 1, none⟩) hq.lt).trans hq.c1
      have HP : Hid (ss.getD k 0 = ss[k]) := hide (by simp [hlt])
      generalize ss[k] = p at *
      generalize G k = b at *
      have hz : (0 : Int) ≤ k := by omega
      have hz2 : (k : Int) < ss.length := by omega
      have hq1 := hrow.cell hlt
      have hf := hrow.frozen
      have hglt := hrow.lt
      clear hq
      go_wp2_with fail
      go_roundw
      case rel =>
        refine ⟨k + 1, hlt, by go_num, (hrow.set k _).congr (fun j hj => ?_), by go_grown⟩
        by_cases h : j = k
        · subst h
          rw [if_pos rfl, if_pos (by omega), HP.out]
        · rw [if_neg h]
          by_cases h' : j < k
          · rw [if_pos h', if_pos (by omega)]
          · rw [if_neg h', if_neg (by omega)]
      case measure => simp [intOf]; omega
    · have hz2 : ¬ (k : Int) < ss.length := by omega
      go_wp2_with fail
      go_ret
      exact ⟨rfl, hrow.congr (fun i hi => if_pos (by omega)), by go_grown⟩

set_option maxHeartbeats 1000000 in
theorem implStartsEarly_any (A : Option Addr) (c : Nat) (l : List Task) (w : World) (hA : TasksAt w A l) (hl : l.length ≤ 1048576) (hp : ∀ x ∈ l, x.after.length ≤ 1048576) :
    Calls Tryd.prog 23 #[.slice A l.length c] w fun e w' => ∃ v, e = .returned v ∧ IntSl w' w.heap.size v (startsEarlyL l) ∧ Below w.heap.size w w' := by
  have HP := hide hp
  clear hp
  cases hI : tasksOk l with
  | false =>
    have HI := hide hI
    have H0 : Hid (startsEarlyL l = []) := hide (by unfold startsEarlyL; rw [hI]; rfl)
    clear hI
    go_enter Tryd.func23, Tryd.ntmps23
    go_wp2_with fail
    refine (implTasksValid_any _ _ _ _ hA hl HP.out).mono ?_
    rintro e w1 ⟨rfl, hB1⟩
    rw [HI.out]
    go_wp2_with fail
    refine bodyPost_ret (results_tmp rfl _ _ _) rfl ⟨.slice none 0 0, rfl, by rw [H0.out]; exact World.ownsRow_nil _ _ _ _, hB1⟩
  | true =>
    have HI := hide hI
    have HL := hide (startsEarlyL_len hI)
    clear hI
    go_enter Tryd.func23, Tryd.ntmps23
    go_wp2_with fail
    refine (implTasksValid_any _ _ _ _ hA hl HP.out).mono ?_
    rintro e w1 ⟨rfl, hB1⟩
    rw [HI.out]
    have hsz1 := hB1.size
    go_wp2_with fail
    refine (stepsOf_any _ _ _ _ (hA.below hB1) HI HP.out).mono ?_
    rintro e w2 ⟨rfl, ⟨G, hR, hU⟩, hB2⟩
    have hb2 := next hB1 hB2
    have hsz2 := hb2.size
    have hS := startsOf_any w1.heap.size l.length l.length G (startsEarlyL l) w2 hR (fun i s hs => by
      have hi : i < l.length := by have := (List.getElem?_eq_some_iff.1 hs).1; rw [HL.out] at this; exact this
      exact ⟨_, (hU i l[i] s hi (List.getElem?_eq_getElem hi) hs).2⟩) HL.out hl
    have HS := hide hS
    clear hS hR hU
    go_wp2_with fail
    refine HS.out.mono ?_
    rintro e w3 ⟨rfl, hO, hB3⟩
    have hb3 := next hb2 hB3
    have HO : Hid (IntSl w3 w.heap.size (.slice (some ⟨w2.heap.size, 0, none⟩) l.length l.length) (startsEarlyL l)) := hide (by
      have := hO.sl hsz2 (by rw [HL.out]; exact hl)
      rwa [HL.out] at this)
    clear hO
    go_wp2_with fail
    refine bodyPost_ret (results_tmp rfl _ _ _) rfl ⟨.slice (some ⟨w2.heap.size, 0, none⟩) l.length l.length, rfl, HO.out, hb3⟩
end Go.Proofs.YtgagfaajilbmmaaDoor

namespace Go.Proofs.YtgagfaajilbmmaaDoor
open Go.RowKit Go.ChangeShapes Go.WideShapes Go.ChangeAt Go.Deep

set_option maxHeartbeats 1000000 in
theorem endOf_any (A : Option Addr) (c : Nat) (bds : List (Nat × Int)) (w : World) (hA : StepsAt w A bds) (hl : bds.length ≤ 1048576) :
    Calls Tryd.prog 75 #[.slice A bds.length c] w fun e w' => e = .returned (.int .i64 (maxFrom 0 (bds.map (·.2)))) ∧ Below w.heap.size w w' := by
  go_enter Tryd.func75, Tryd.ntmps75
  go_wp2_with fail
  go_loopw [3, 8] (fun ev i wr => ∃ (k : Nat) (t : Int), k ≤ bds.length ∧ i = .int .i64 k ∧ ev = .int .i64 t ∧ Hid (maxFrom 0 (bds.map (·.2)) = maxFrom t ((bds.map (·.2)).drop k)) ∧ Below w.heap.size w wr) (fun _ i _ => bds.length - (intOf i).toNat)
  case atStart => exact ⟨0, 0, Nat.zero_le _, rfl, rfl, hide rfl, Below.refl _ _⟩
  case round =>
    obtain ⟨k, t, hk, rfl, rfl, HG, hb⟩ := hrel
    have hsz := hb.size
    by_cases hlt : k < bds.length
    · obtain ⟨ab, off, rfl, hbl, hcp, hst⟩ := (hA.below hb) k bds[k] (List.getElem?_eq_getElem hlt)
      have HD : Hid ((bds.map (·.2)).drop k = bds[k].2 :: (bds.map (·.2)).drop (k + 1)) := hide (by
        rw [List.drop_eq_getElem_cons (by rw [List.length_map]; exact hlt)]
        simp)
      generalize bds[k] = p at *
      obtain ⟨b, d⟩ := p
      simp only at hcp hst HD
      have HDN : Hid (Calls Tryd.prog 111 #[.pointer (some ⟨b, 0, none⟩)] wr fun e w' => e = .returned (.int .i64 d) ∧ ∃ m, w' = wr.drewN m) := hide (done_any b d wr hst)
      have HG2 : Hid (maxFrom 0 (bds.map (·.2)) = maxFrom (if t < d then d else t) ((bds.map (·.2)).drop (k + 1))) := hide (by rw [HG.out, HD.out, maxFrom])
      have hz : (0 : Int) ≤ k := by omega
      have hz2 : (k : Int) < bds.length := by omega
      clear hst
      go_wp2_with fail
      refine HDN.out.mono ?_
      rintro e w' ⟨rfl, m, rfl⟩
      go_wp2_with fail
      go_roundw
      case rel => exact ⟨k + 1, if t < d then d else t, hlt, by go_num, by first | rfl | go_num, HG2, below_drewN hb _⟩
      case measure => simp [intOf]; omega
    · have H3 : Hid (maxFrom 0 (bds.map (·.2)) = t) := hide (by rw [HG.out, List.drop_of_length_le (by rw [List.length_map]; omega), maxFrom])
      go_wp2_with fail
      go_ret
      exact ⟨by rw [H3.out]; rfl, hb⟩

/-- The pointers of a row with their ends. -/
def endsOf (G : Nat → Nat) (l : List Task) (ss : List Int) : List (Nat × Int) := (List.range l.length).map (fun i => (G i, ss.getD i 0 + (l.getD i default).span))
theorem endsOf_len (G : Nat → Nat) (l : List Task) (ss : List Int) : (endsOf G l ss).length = l.length := by simp [endsOf]
theorem endsOf_dones {G : Nat → Nat} {l : List Task} {ss : List Int} (h : ss.length = l.length) : (endsOf G l ss).map (·.2) = List.zipWith (fun s x => s + x.span) ss l := by
  apply List.ext_getElem?
  intro i
  by_cases hi : i < l.length
  · rw [List.getElem?_zipWith, List.getElem?_map, endsOf, List.getElem?_map, List.getElem?_range hi, List.getElem?_eq_getElem hi, List.getElem?_eq_getElem (show i < ss.length by omega)]
    simp [List.getD_eq_getElem?_getD, hi, show i < ss.length by omega]
  · rw [List.getElem?_eq_none (by rw [List.length_map, endsOf_len]; omega), List.getElem?_eq_none (by rw [List.length_zipWith]; omega)]
theorem endsOf_at {w : World} {lo g : Nat} {l : List Task} {ss : List Int} {G : Nat → Nat} (hP : PtrRow w g l.length l.length G) (hU : StepsUpto w lo l ss l.length G) (hs : ss.length = l.length) : StepsAt w (some ⟨g, 0, none⟩) (endsOf G l ss) := by
  intro i p hp
  have hi : i < l.length := by have := (List.getElem?_eq_some_iff.1 hp).1; rwa [endsOf_len] at this
  rw [endsOf, List.getElem?_map, List.getElem?_range hi] at hp
  injection hp with hp
  subst hp
  have h1 : l[i]? = some l[i] := List.getElem?_eq_getElem hi
  have h2 : ss[i]? = some (ss[i]'(by omega)) := List.getElem?_eq_getElem _
  refine ⟨g, 0, rfl, World.rowIs.lt hP, by rw [Nat.zero_add]; exact hP.at_ hi hi, ?_⟩
  simp only [List.getD_eq_getElem?_getD, h1, h2, Option.getD_some]
  exact (hU i _ _ hi h1 h2).2.p

set_option maxHeartbeats 1000000 in
theorem implTasksEnd_any (A : Option Addr) (c : Nat) (l : List Task) (w : World) (hA : TasksAt w A l) (hl : l.length ≤ 1048576) (hp : ∀ x ∈ l, x.after.length ≤ 1048576) :
    Calls Tryd.prog 25 #[.slice A l.length c] w fun e w' => e = .returned (.int .i64 (tasksEndL l)) ∧ Below w.heap.size w w' := by
  have HP := hide hp
  clear hp
  cases hI : tasksOk l with
  | false =>
    have HI := hide hI
    have H3 : Hid (tasksEndL l = -1) := hide (by unfold tasksEndL; rw [hI]; rfl)
    clear hI
    go_enter Tryd.func25, Tryd.ntmps25
    go_wp2_with fail
    refine (implTasksValid_any _ _ _ _ hA hl HP.out).mono ?_
    rintro e w1 ⟨rfl, hB1⟩
    rw [HI.out]
    go_wp2_with fail
    go_ret
    exact ⟨by rw [H3.out]; rfl, hB1⟩
  | true =>
    have HI := hide hI
    have H0 : Hid (tasksEndL l = maxFrom 0 (donesL l)) := hide (by unfold tasksEndL; rw [if_pos hI])
    clear hI
    go_enter Tryd.func25, Tryd.ntmps25
    go_wp2_with fail
    refine (implTasksValid_any _ _ _ _ hA hl HP.out).mono ?_
    rintro e w1 ⟨rfl, hB1⟩
    rw [HI.out]
    go_wp2_with fail
    refine (stepsOf_any _ _ _ _ (hA.below hB1) HI HP.out).mono ?_
    rintro e w2 ⟨rfl, ⟨G, hR, hU⟩, hB2⟩
    have hb2 := next hB1 hB2
    have hE := endOf_any _ l.length _ w2 (endsOf_at hR hU (startsEarlyL_len HI.out)) (by rw [endsOf_len]; exact hl)
    rw [endsOf_len, endsOf_dones (startsEarlyL_len HI.out)] at hE
    have HE := hide hE
    clear hE hR hU
    go_wp2_with fail
    refine HE.out.mono ?_
    rintro e w3 ⟨rfl, hB3⟩
    have hb3 := next hb2 hB3
    go_wp2_with fail
    go_ret
    exact ⟨by rw [H0.out]; rfl, hb3⟩
end Go.Proofs.YtgagfaajilbmmaaDoor
