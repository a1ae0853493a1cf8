/- Steps3: contracts of newStep and stepsOf that tell the whole of each step: its minutes, its time, the row of what comes before it.
   Conditions: the tasks are valid. -/
import Derived.Test.YtgagfaajilbmmaaSteps2
namespace Go.Proofs.Ytgagfaajilbmmaa
open Go.RowKit Go.ChangeShapes Go.WideShapes Go.ChangeAt Go.Deep

def stepCells (sp st : Int) (V : Value) : Nat → Value := fun j => if j = 0 then .int .i64 sp else if j = 1 then .int .i64 st else V
theorem stepRow_new (w : World) (sp st : Int) (V : Value) : (w.alloc (.cells #[.int .i64 sp, .int .i64 st, V] 81)).rowIs w.heap.size 81 3 (stepCells sp st V) :=
  ⟨_, heap_alloc_new w _, rfl, fun i hi => by rcases (by omega : i = 0 ∨ i = 1 ∨ i = 2) with rfl | rfl | rfl <;> rfl⟩
theorem stepRow_0 {w : World} {b : Nat} {sp st : Int} {V : Value} (h : w.rowIs b 81 3 (stepCells sp st V)) : w.cell? ⟨b, 0, none⟩ = some (.int .i64 sp) := World.rowIs.cell h (i := 0) (by omega)
theorem stepRow_1 {w : World} {b : Nat} {sp st : Int} {V : Value} (h : w.rowIs b 81 3 (stepCells sp st V)) : w.cell? ⟨b, 1, none⟩ = some (.int .i64 st) := World.rowIs.cell h (i := 1) (by omega)
theorem stepRow_2 {w : World} {b : Nat} {sp st : Int} {V : Value} (h : w.rowIs b 81 3 (stepCells sp st V)) : w.cell? ⟨b, 2, none⟩ = some V := World.rowIs.cell h (i := 2) (by omega)
theorem stepRow_set {w : World} {b : Nat} {sp st st' : Int} {V : Value} (h : w.rowIs b 81 3 (stepCells sp st V)) : (w.setCell ⟨b, 1, none⟩ (.int .i64 st')).rowIs b 81 3 (stepCells sp st' V) :=
  (World.rowIs.set h 1 (.int .i64 st')).congr (fun i hi => by rcases (by omega : i = 0 ∨ i = 1 ∨ i = 2) with rfl | rfl | rfl <;> rfl)

/-- The steps of the first k tasks behind the pointers of G, each with its time and its own row H of what comes before it; the blocks rise. -/
def StepsR (w : World) (lo : Nat) (l : List Task) (ss : List Int) (k : Nat) (G H : Nat → Nat) : Prop :=
  ∀ i x s, i < k → l[i]? = some x → ss[i]? = some s → lo < H i ∧ H i < G i ∧ (∀ i', i' < i → G i' < H i) ∧ w.rowIs (G i) 81 3 (stepCells x.span s (.slice (some ⟨H i, 0, none⟩) x.after.length x.after.length)) ∧ PtrRow w (H i) x.after.length x.after.length (fun j => G (x.after.getD j 0).toNat)
theorem StepsR.below {w w' : World} {lo k : Nat} {l : List Task} {ss : List Int} {G H : Nat → Nat} (h : StepsR w lo l ss k G H) (hB : Below w.heap.size w w') : StepsR w' lo l ss k G H := fun i x s hi hx hs => by
  obtain ⟨h1, h2, h3, h4, h5⟩ := h i x s hi hx hs
  exact ⟨h1, h2, h3, World.rowIs.of_block h4 (hB.block _ (World.rowIs.lt h4)), h5.below hB⟩
theorem StepsR.far {w : World} {lo k g j : Nat} {u : Value} {l : List Task} {ss : List Int} {G H : Nat → Nat} (h : StepsR w lo l ss k G H) (hne : ∀ i, i < k → i < l.length → G i < g) : StepsR (w.setCell ⟨g, j, none⟩ u) lo l ss k G H := fun i x s hi hx hs => by
  obtain ⟨h1, h2, h3, h4, h5⟩ := h i x s hi hx hs
  have := hne i hi (List.getElem?_eq_some_iff.1 hx).1
  exact ⟨h1, h2, h3, World.rowIs.setOther h4 (by simp; omega) _, h5.far (by simp; omega) _⟩
theorem StepsR.upto {w : World} {lo k : Nat} {l : List Task} {ss : List Int} {G H : Nat → Nat} (h : StepsR w lo l ss k G H) (hl : ∀ y ∈ l, 0 ≤ y.span ∧ y.span ≤ 30) (hs : ∀ t ∈ ss, 0 ≤ t ∧ t ≤ 210) : StepsUpto w lo l ss k G := fun i x s hi hx hss => by
  obtain ⟨h1, h2, h3, h4, h5⟩ := h i x s hi hx hss
  have a := hl x (List.mem_of_getElem? hx)
  have b := hs s (List.mem_of_getElem? hss)
  exact ⟨by omega, World.rowIs.lt h4, stepRow_0 h4, stepRow_1 h4, a.1, b.1, by omega⟩

set_option maxRecDepth 100000 in
set_option maxHeartbeats 2000000 in
theorem newStepR_any (sp : Int) (A : Option Addr) (c : Nat) (bds : List (Nat × Int)) (w : World) (hA : StepsAt w A bds) (hl : bds.length ≤ 1048576) (HM : Hid (∀ p ∈ bds, p.2 ≤ 900000)) :
    Calls Try.prog 65 #[.int .i64 sp, .slice A bds.length c] w fun e w' => ∃ g, e = .returned (.pointer (some ⟨g, 0, none⟩)) ∧ w.heap.size ≤ g ∧ w'.rowIs g 81 3 (stepCells sp (maxFrom 0 (bds.map (·.2))) (.slice A bds.length c)) ∧ Below w.heap.size w w' := by
  have HR0 := hide (stepRow_new w sp 0 (.slice A bds.length c))
  go_enter Try.func65, Try.ntmps65
  go_wp2_with fail
  go_loopw [14] (fun i wr => ∃ (k : Nat) (st : Int), k ≤ bds.length ∧ i = .int .i64 k ∧ 0 ≤ st ∧ st ≤ 900000 ∧ Hid (maxFrom 0 (bds.map (·.2)) = maxFrom st ((bds.map (·.2)).drop k)) ∧ Hid (wr.rowIs w.heap.size 81 3 (stepCells sp st (.slice A bds.length c))) ∧ w.heap.size < wr.heap.size ∧ Below w.heap.size w wr) (fun i _ => bds.length - (intOf i).toNat)
  case atStart => exact ⟨0, 0, Nat.zero_le _, rfl, by omega, by omega, hide rfl, HR0.out, by simp, by go_grown⟩
  case round =>
    obtain ⟨k, st, hk, rfl, hs0, hs1, HG, HRW, hsl, hb⟩ := hrel
    have hc0 := stepRow_0 HRW.out
    have hc1 := stepRow_1 HRW.out
    have hf1 := World.rowIs.frozen HRW.out 1
    have hsz := hb.size
    by_cases hlt : k < bds.length
    · obtain ⟨ab, off, rfl, hbl, hcp, hst⟩ := (hA.below hb) k bds[k] (List.getElem?_eq_getElem hlt)
      have hMb := HM.out _ (List.getElem_mem hlt)
      have HD : Hid ((bds.map (·.2)).drop k = bds[k].2 :: (bds.map (·.2)).drop (k + 1)) := hide (by
        rw [List.drop_eq_getElem_cons (by rw [List.length_map]; exact hlt)]
        simp)
      generalize bds[k] = p at *
      obtain ⟨b, d⟩ := p
      simp only at hcp hst hMb HD
      have hd0 : 0 ≤ d := by obtain ⟨_, _, _, _, a, b', c', _⟩ := hst.ex; omega
      have HDN : Hid (Calls Try.prog 67 #[.pointer (some ⟨b, 0, none⟩)] wr.drew fun e w' => e = .returned (.int .i64 d) ∧ ∃ m, w' = wr.drew.drewN m) := hide (done_any b d wr.drew ⟨hst.lt, hst.ex⟩)
      have HG2 : Hid (maxFrom 0 (bds.map (·.2)) = maxFrom (if st < d then d else st) ((bds.map (·.2)).drop (k + 1))) := hide (by rw [HG.out, HD.out, maxFrom])
      have hz : (0 : Int) ≤ k := by omega
      have hz2 : (k : Int) < bds.length := by omega
      clear hst hbl
      go_wp2_with fail
      go_region_law ((go_simp; go_at_call 67; refine HDN.out.mono ?_; rintro e w5 ⟨rfl, m, rfl⟩))
      all_goals
        go_wp2_with fail
        go_roundw
        case rel =>
          have hbq : Below w.heap.size w (wr.drewN (1 + m)) := ⟨hb.os, hb.tape, hb.output, hb.size, hb.block⟩
          exact ⟨k + 1, if st < d then d else st, hlt, by go_num, by split <;> omega, by split <;> omega, HG2, hide (stepRow_set (st' := if st < d then d else st) HRW.out), by simpa using hsl, by go_grown⟩
        case measure => simp [intOf]; omega
    · have H3 : Hid (maxFrom 0 (bds.map (·.2)) = st) := hide (by rw [HG.out, List.drop_of_length_le (by rw [List.length_map]; omega), maxFrom])
      go_wp2_with fail
      go_ret
      exact ⟨_, rfl, Nat.le_refl _, by rw [H3.out]; exact HRW.out, hb⟩

set_option maxRecDepth 100000 in
set_option maxHeartbeats 2000000 in
theorem stepsOfR_any (A : Option Addr) (c : Nat) (l : List Task) (w : World) (hA : TasksAt w A l) (HI : Hid (tasksOk l = true)) (hp : ∀ x ∈ l, x.after.length ≤ 1048576) :
    Calls Try.prog 41 #[.slice A l.length c] w fun e w' => e = .returned (.slice (some ⟨w.heap.size, 0, none⟩) l.length l.length) ∧ (∃ G H, PtrRow w' w.heap.size l.length l.length G ∧ StepsR w' w.heap.size l (startsEarlyL l) l.length G H) ∧ Below w.heap.size w w' := by
  have HP := hide hp
  clear hp
  have h7 := tasksOk_len HI.out
  obtain ⟨ss, HSS⟩ : ∃ ss, Hid (startsEarlyL l = ss) := ⟨_, hide rfl⟩
  have HSL : Hid (ss.length = l.length) := hide (by rw [← HSS.out]; exact startsEarlyL_len HI.out)
  have HSO : Hid (∀ t ∈ ss, 0 ≤ t ∧ t ≤ 210) := hide (by rw [← HSS.out]; exact startsEarlyL_ok HI.out)
  have HR0 := hide (PtrRow.made w l.length (fun _ => 0))
  have hmk := make_steps l.length (by omega)
  rw [HSS.out]
  go_enter Try.func41, Try.ntmps41
  go_wp2_with fail
  clear hmk
  go_loopw [14] (fun i wr => ∃ k : Nat, k ≤ l.length ∧ i = .int .i64 k ∧ Hid (∃ G H, PtrRow wr w.heap.size l.length k G ∧ StepsR wr w.heap.size l ss k G H) ∧ w.heap.size < wr.heap.size ∧ Below w.heap.size w wr) (fun i _ => l.length - (intOf i).toNat)
  case atStart => exact ⟨0, Nat.zero_le _, rfl, hide ⟨_, fun _ => 0, HR0.out, fun i x s hi => absurd hi (by omega)⟩, by simp, by go_grown⟩
  case round =>
    clear HR0
    obtain ⟨k, hk, rfl, HG, hg0, hb⟩ := hrel
    have hsz := hb.size
    by_cases hlt : k < l.length
    · obtain ⟨x, HX⟩ : ∃ x, Hid (l[k]? = some x) := ⟨_, hide (List.getElem?_eq_getElem hlt)⟩
      obtain ⟨b, off, C, d, rfl, hbl, hc1, hc2, hpa⟩ := (hA.below hb) k x HX.out
      have hx : x.after.length ≤ 1048576 := HP.out _ (List.mem_of_getElem? HX.out)
      have HT : Hid (∀ a ∈ x.after, 0 ≤ a ∧ a < (k : Int)) := hide (tasksOk_at HI.out HX.out).2
      obtain ⟨hy0, hy1⟩ := (tasksOk_at HI.out HX.out).1
      have HSK : Hid (ss[k]? = some (maxFrom 0 (x.after.map (fun a => ss.getD a.toNat 0 + (l.getD a.toNat default).span)))) := hide (by
        have := startsEarlyL_at HI.out HX.out
        rw [HSS.out] at this
        exact this)
      obtain ⟨G, H, hG⟩ := HG.out
      have HPA := hide hpa
      have hz : (0 : Int) ≤ k := by omega
      have hz2 : (k : Int) < l.length := by omega
      have hmk := make_steps x.after.length hx
      obtain ⟨wo, rfl⟩ : ∃ wo : World, wo = wr := ⟨_, rfl⟩
      obtain ⟨n, hn⟩ : ∃ n, wo.heap.size = n := ⟨_, rfl⟩
      have HN := hide hn
      have hGk : Hid (∀ i, i < k → i < l.length → w.heap.size < G i ∧ G i < n) := hide (fun i hi hil => by
        have := hG.2 i _ _ hi (List.getElem?_eq_getElem hil) (List.getElem?_eq_getElem (show i < ss.length by rw [HSL.out]; exact hil))
        have h2 := World.rowIs.lt this.2.2.2.1
        exact ⟨by omega, by omega⟩)
      have HGG := hide hG
      have hb1 : Below wo.heap.size wo (wo.alloc (.cells #[.int .i64 x.span, .slice C x.after.length d] 68)) := by go_grown
      have hb2 : Below wo.heap.size wo ((wo.alloc (.cells #[.int .i64 x.span, .slice C x.after.length d] 68)).alloc (.cells (madeCells #[.pointer none] x.after.length) 77)) := by go_grown
      have HR1 := hide (PtrRow.made (wo.alloc (.cells #[.int .i64 x.span, .slice C x.after.length d] 68)) x.after.length (fun i => G (x.after.getD i 0).toNat))
      clear hG hpa hn HG
      go_wp2_with fail
      clear hmk
      go_loopw [26] (fun i wi => ∃ j : Nat, j ≤ x.after.length ∧ i = .int .i64 j ∧ Hid (PtrRow wi w.heap.size l.length k G ∧ StepsR wi w.heap.size l ss k G H ∧ PtrRow wi (wo.heap.size + 1) x.after.length j (fun i => G (x.after.getD i 0).toNat)) ∧ wi.cell? ⟨wo.heap.size, 0, none⟩ = some (.int .i64 x.span) ∧ wo.heap.size + 1 < wi.heap.size ∧ Below wo.heap.size wo wi) (fun i _ => x.after.length - (intOf i).toNat)
      case atStart => exact ⟨0, Nat.zero_le _, rfl, hide ⟨HGG.out.1.below hb2, HGG.out.2.below hb2, by have := HR1.out; simpa using this⟩, by simp, by simp, hb2⟩
      case round =>
        clear HR1 hb1 hb2
        obtain ⟨j, hj, rfl, HJ, hq1, hsl, hbi⟩ := hrel
        have hbw := next hb hbi
        have hsz2 := hbi.size
        have hkl : k ≤ l.length := hk
        by_cases hjt : j < x.after.length
        · obtain ⟨a, HAJ⟩ : ∃ a, Hid (x.after[j]? = some a) := ⟨_, hide (List.getElem?_eq_getElem hjt)⟩
          obtain ⟨b2, off2, rfl, hbl2, hd⟩ := (HPA.out.below hbi) j a HAJ.out
          obtain ⟨m, rfl, hmk⟩ : ∃ m : Nat, a = m ∧ m < k := by
            have := HT.out a (List.mem_of_getElem? HAJ.out)
            exact ⟨a.toNat, by omega, by omega⟩
          have hs1 := HJ.out.1.at_ hmk (by omega)
          obtain ⟨v3, hq3⟩ : ∃ v, wr.cell? ⟨wo.heap.size + 1, j, none⟩ = some v := ⟨_, World.rowIs.cell HJ.out.2.2 hjt⟩
          have hf3 := World.rowIs.frozen HJ.out.2.2 j
          have HJ2 : Hid (PtrRow (wr.setCell ⟨wo.heap.size + 1, j, none⟩ (.pointer (some ⟨G m, 0, none⟩))) w.heap.size l.length k G ∧ StepsR (wr.setCell ⟨wo.heap.size + 1, j, none⟩ (.pointer (some ⟨G m, 0, none⟩))) w.heap.size l ss k G H ∧ PtrRow (wr.setCell ⟨wo.heap.size + 1, j, none⟩ (.pointer (some ⟨G m, 0, none⟩))) (wo.heap.size + 1) x.after.length (j + 1) (fun i => G (x.after.getD i 0).toNat)) := hide ⟨HJ.out.1.far (by simp; omega) _, HJ.out.2.1.far (fun i hi hil => by have h1 := (hGk.out i hi hil).2; have h2 := HN.out; omega), (HJ.out.2.2.step (b := G m)).congr (fun i hi => by
            by_cases e : i = j
            · subst e
              simp [HAJ.out]
            · simp [e])⟩
          have hq1' : (wr.setCell ⟨wo.heap.size + 1, j, none⟩ (.pointer (some ⟨G m, 0, none⟩))).cell? ⟨wo.heap.size, 0, none⟩ = some (.int .i64 x.span) := (World.cell?_of_block (a := ⟨wo.heap.size, 0, none⟩) (heap_other (show wo.heap.size ≠ wo.heap.size + 1 by omega))).trans hq1
          have hv : (0 : Int) ≤ j := by omega
          have hv2 : (j : Int) < x.after.length := by omega
          have hm0 : (0 : Int) ≤ m := by omega
          have hm1 : (m : Int) < l.length := by omega
          go_wp2_with fail
          go_roundw
          case rel => exact ⟨j + 1, hjt, by go_num, HJ2, hq1', by simpa using hsl, by go_grown⟩
          case measure => simp [intOf]; omega
        · obtain rfl : j = x.after.length := by omega
          have hst := before_at (HJ.out.2.1.upto (tasks_span HI.out) HSO.out) HJ.out.2.2 rfl hk (by rw [HSL.out]; exact hk) HT.out
          have hM : Hid (∀ p ∈ x.after.map (fun a => (G a.toNat, ss.getD a.toNat 0 + (l.getD a.toNat default).span)), p.2 ≤ 900000) := hide (fun p hp => by
            obtain ⟨a, _, rfl⟩ := List.mem_map.1 hp
            have g1 := getD_range (by omega) HSO.out a.toNat
            have g2 := getD_span (tasks_span HI.out) a.toNat
            simp only
            omega)
          have hNS := newStepR_any x.span _ x.after.length _ wr hst (by rw [List.length_map]; exact hx) hM
          rw [List.length_map, List.map_map] at hNS
          have HNS := hide hNS
          clear hNS hst hM
          go_wp2_with fail
          refine HNS.out.mono ?_
          rintro e w3 ⟨g3, rfl, hg3, hQ, hB3⟩
          have hJ3 := HJ.out.2.2.below hB3
          have hR3 := HJ.out.1.below hB3
          have hU3 := HJ.out.2.1.below hB3
          have hsz3 := hB3.size
          have hb3 := next hbw hB3
          obtain ⟨v3, hq3⟩ : ∃ v, w3.cell? ⟨w.heap.size, k, none⟩ = some v := ⟨_, World.rowIs.cell hR3 hlt⟩
          have hf3 := World.rowIs.frozen hR3 k
          have HG2 : Hid (∃ G H, PtrRow (w3.setCell ⟨w.heap.size, k, none⟩ (.pointer (some ⟨g3, 0, none⟩))) w.heap.size l.length (k + 1) G ∧ StepsR (w3.setCell ⟨w.heap.size, k, none⟩ (.pointer (some ⟨g3, 0, none⟩))) w.heap.size l ss (k + 1) G H) := hide ⟨_, fun i => if i = k then wo.heap.size + 1 else H i, hR3.step (b := g3), fun i y s hi hy hs => by
            by_cases e : i = k
            · subst e
              rw [HX.out] at hy
              injection hy with hy
              subst hy
              rw [HSK.out] at hs
              injection hs with hs
              subst hs
              simp only [if_true]
              refine ⟨by omega, by omega, fun i' hi' => ?_, World.rowIs.setOther hQ (by simp; omega) _, ?_⟩
              · rw [if_neg (by omega)]
                have h1 := (hGk.out i' hi' (by omega)).2
                have h2 := HN.out
                omega
              · refine PtrRow.congr (hJ3.far (by simp; omega) _) (fun j hj => ?_)
                have hr := HT.out (x.after.getD j 0) (List.mem_of_getElem? (by simp [hj] : x.after[j]? = some (x.after.getD j 0)))
                rw [if_neg (by omega)]
            · simp only [if_neg e]
              obtain ⟨h1, h2, h3, h4, h5⟩ := hU3 i y s (by omega) hy hs
              refine ⟨h1, h2, fun i' hi' => by rw [if_neg (by omega)]; exact h3 i' hi', World.rowIs.setOther h4 (by simp; omega) _, ?_⟩
              refine PtrRow.congr (h5.far (by simp; omega) _) (fun j hj => ?_)
              have hr := (tasksOk_at HI.out hy).2 (y.after.getD j 0) (List.mem_of_getElem? (by simp [hj] : y.after[j]? = some (y.after.getD j 0)))
              rw [if_neg (by omega)]⟩
          clear hR3 hU3 hQ HNS hJ3
          go_wp2_with fail
          go_roundw
          case rel => exact ⟨k + 1, hlt, by go_num, HG2, by simp; omega, by go_grown⟩
          case measure => simp [intOf]; omega
    · have HE : Hid (∃ G H, PtrRow wr w.heap.size l.length l.length G ∧ StepsR wr w.heap.size l ss l.length G H) := by
        obtain rfl : l.length = k := by omega
        exact HG
      go_wp2_with fail
      go_ret
      exact ⟨rfl, HE.out, hb⟩
end Go.Proofs.Ytgagfaajilbmmaa
