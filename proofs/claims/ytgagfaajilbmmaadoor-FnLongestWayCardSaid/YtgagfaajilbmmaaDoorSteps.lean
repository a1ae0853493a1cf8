/- The row of steps that the program makes of the tasks: each task's step begins when all that it waits for is done.
   Conditions: the tasks are valid.
   Contract of stepsOf: a row of pointers to the steps of valid tasks, each with its minutes and its earliest time.
   Conditions: the tasks are valid.
   Steps3: contracts of newStep and stepsOf that tell the whole of each step: its minutes, its time, the row of what comes before it.
   Conditions: the tasks are valid. -/
import Derived.Test.YtgagfaajilbmmaaDoorEarly3
import Derived.Test.YtgagfaajilbmmaaDoorFlow
namespace Go.Proofs.YtgagfaajilbmmaaDoor
open Go.RowKit Go.ChangeShapes Go.WideShapes Go.ChangeAt Go.Deep

set_option maxRecDepth 100000 in
set_option maxHeartbeats 2000000 in
theorem newStepQ_any (sp : Int) (A : Option Addr) (c : Nat) (bds : List (Nat × Int)) (w : World) (h0 : 0 ≤ sp) (h1 : sp ≤ 30) (hA : StepsAt w A bds) (hl : bds.length ≤ 1048576) (HM : Hid (∀ p ∈ bds, p.2 ≤ 900000)) :
    Calls Tryd.prog 109 #[.int .i64 sp, .slice A bds.length c] w fun e w' => ∃ g, e = .returned (.pointer (some ⟨g, 0, none⟩)) ∧ w.heap.size ≤ g ∧ StepQ w' g sp (maxFrom 0 (bds.map (·.2))) ∧ Below w.heap.size w w' := by
  go_enter Tryd.func109, Tryd.ntmps109
  go_wp2_with fail
  go_loopw [14] (fun i wr => ∃ (k : Nat) (st : Int), k ≤ bds.length ∧ i = .int .i64 k ∧ 0 ≤ st ∧ st ≤ 900000 ∧ Hid (maxFrom 0 (bds.map (·.2)) = maxFrom st ((bds.map (·.2)).drop k)) ∧ wr.cell? ⟨w.heap.size, 0, none⟩ = some (.int .i64 sp) ∧ wr.cell? ⟨w.heap.size, 1, none⟩ = some (.int .i64 st) ∧ wr.frozen? ⟨w.heap.size, 1, none⟩ = false ∧ w.heap.size < wr.heap.size ∧ Below w.heap.size w wr) (fun i _ => bds.length - (intOf i).toNat)
  case atStart => exact ⟨0, 0, Nat.zero_le _, rfl, by omega, by omega, hide rfl, by simp, by simp, by simp, by simp, by go_grown⟩
  case round =>
    obtain ⟨k, st, hk, rfl, hs0, hs1, HG, hc0, hc1, hf1, hsl, hb⟩ := hrel
    have hsz := hb.size
    by_cases hlt : k < bds.length
    · obtain ⟨ab, off, rfl, hbl, hcp, hst⟩ := (hA.below hb) k bds[k] (List.getElem?_eq_getElem hlt)
      have hMb := HM.out _ (List.getElem_mem hlt)
      have HD : Hid ((bds.map (·.2)).drop k = bds[k].2 :: (bds.map (·.2)).drop (k + 1)) := hide (by
        rw [List.drop_eq_getElem_cons (by rw [List.length_map]; exact hlt)]
        simp)
      generalize bds[k] = p at *
      obtain ⟨b, d⟩ := p
      simp only at hcp hst hMb HD
      have hd0 : 0 ≤ d := by obtain ⟨_, _, _, _, a, b', c', _⟩ := hst.ex; omega
      have HDN : Hid (Calls Tryd.prog 111 #[.pointer (some ⟨b, 0, none⟩)] wr.drew fun e w' => e = .returned (.int .i64 d) ∧ ∃ m, w' = wr.drew.drewN m) := hide (done_any b d wr.drew ⟨hst.lt, hst.ex⟩)
      have HG2 : Hid (maxFrom 0 (bds.map (·.2)) = maxFrom (if st < d then d else st) ((bds.map (·.2)).drop (k + 1))) := hide (by rw [HG.out, HD.out, maxFrom])
      have hz : (0 : Int) ≤ k := by omega
      have hz2 : (k : Int) < bds.length := by omega
      clear hst hbl
      go_wp2_with fail
      go_region_law ((go_simp; go_at_call 111; refine HDN.out.mono ?_; rintro e w5 ⟨rfl, m, rfl⟩))
      all_goals
        go_wp2_with fail
        go_roundw
        case rel =>
          have hbq : Below w.heap.size w (wr.drewN (1 + m)) := ⟨hb.os, hb.tape, hb.output, hb.size, hb.block⟩
          exact ⟨k + 1, if st < d then d else st, hlt, by go_num, by split <;> omega, by split <;> omega, HG2, by simp [go_sem, hc0], by simp [go_sem, hc1], by simp [hf1], by simpa using hsl, by go_grown⟩
        case measure => simp [intOf]; omega
    · have H3 : Hid (maxFrom 0 (bds.map (·.2)) = st) := hide (by rw [HG.out, List.drop_of_length_le (by rw [List.length_map]; omega), maxFrom])
      go_wp2_with fail
      go_ret
      exact ⟨_, rfl, Nat.le_refl _, by rw [H3.out]; exact ⟨hsl, hc0, hc1, h0, hs0, by omega⟩, hb⟩

theorem StepQ.p {w : World} {b : Nat} {sp st : Int} (h : StepQ w b sp st) : StepP w b (st + sp) := ⟨h.lt, sp, st, h.c0, h.c1, h.sp0, h.st0, rfl, h.top⟩

/-- The steps of the first k tasks lie behind the pointers of G, all later than block lo. -/
def StepsUpto (w : World) (lo : Nat) (l : List Task) (ss : List Int) (k : Nat) (G : Nat → Nat) : Prop :=
  ∀ i x s, i < k → l[i]? = some x → ss[i]? = some s → lo < G i ∧ StepQ w (G i) x.span s
theorem StepsUpto.below {w w' : World} {lo k : Nat} {l : List Task} {ss : List Int} {G : Nat → Nat} (h : StepsUpto w lo l ss k G) (hB : Below w.heap.size w w') : StepsUpto w' lo l ss k G :=
  fun i x s hi hx hs => ⟨(h i x s hi hx hs).1, (h i x s hi hx hs).2.below hB⟩
theorem StepsUpto.far {w : World} {lo k g j : Nat} {u : Value} {l : List Task} {ss : List Int} {G : Nat → Nat} (h : StepsUpto w lo l ss k G) (hne : ∀ i, i < k → i < l.length → G i ≠ g) : StepsUpto (w.setCell ⟨g, j, none⟩ u) lo l ss k G :=
  fun i x s hi hx hs => ⟨(h i x s hi hx hs).1, (h i x s hi hx hs).2.far (hne i hi (List.getElem?_eq_some_iff.1 hx).1)⟩

end Go.Proofs.YtgagfaajilbmmaaDoor

namespace Go.Proofs.YtgagfaajilbmmaaDoor
open Go.RowKit Go.ChangeShapes Go.WideShapes Go.ChangeAt Go.Deep

theorem PtrRow.congr {w : World} {g n k : Nat} {G G' : Nat → Nat} (h : PtrRow w g n k G) (he : ∀ j, j < k → G j = G' j) : PtrRow w g n k G' :=
  World.rowIs.congr h (fun j hj => by
    by_cases e : j < k
    · rw [if_pos e, if_pos e, he j e]
    · rw [if_neg e, if_neg e])
theorem PtrRow.below {w w' : World} {g n k : Nat} {G : Nat → Nat} (h : PtrRow w g n k G) (hB : Below w.heap.size w w') : PtrRow w' g n k G := World.rowIs.of_block h (hB.block _ (World.rowIs.lt h))
theorem PtrRow.far {w : World} {g n k : Nat} {G : Nat → Nat} (h : PtrRow w g n k G) {a : Addr} (ha : g ≠ a.block) (v : Value) : PtrRow (w.setCell a v) g n k G := World.rowIs.setOther h ha v
theorem PtrRow.at_ {w : World} {g n k : Nat} {G : Nat → Nat} (h : PtrRow w g n k G) {j : Nat} (hj : j < k) (hn : j < n) : w.cell? ⟨g, j, none⟩ = some (.pointer (some ⟨G j, 0, none⟩)) := by
  have := World.rowIs.cell h hn
  rw [if_pos hj] at this
  exact this

theorem before_at {w : World} {lo g k m : Nat} {l : List Task} {ss : List Int} {G : Nat → Nat} {af : List Int} (hU : StepsUpto w lo l ss k G) (hP : PtrRow w g m m (fun i => G (af.getD i 0).toNat)) (hm : af.length = m) (hk : k ≤ l.length) (hs : k ≤ ss.length) (ha : ∀ a ∈ af, 0 ≤ a ∧ a < (k : Int)) :
    StepsAt w (some ⟨g, 0, none⟩) (af.map (fun a => (G a.toNat, ss.getD a.toNat 0 + (l.getD a.toNat default).span))) := by
  intro i p hp
  rw [List.getElem?_map] at hp
  cases e : af[i]? with
  | none => rw [e] at hp; cases hp
  | some a =>
    rw [e] at hp
    injection hp with hp
    subst hp
    have hi : i < af.length := (List.getElem?_eq_some_iff.1 e).1
    have hr := ha a (List.mem_of_getElem? e)
    have h1 : l[a.toNat]? = some (l[a.toNat]'(by omega)) := List.getElem?_eq_getElem _
    have h2 : ss[a.toNat]? = some (ss[a.toNat]'(by omega)) := List.getElem?_eq_getElem _
    have hq := (hU a.toNat _ _ (by omega) h1 h2).2.p
    refine ⟨g, 0, rfl, World.rowIs.lt hP, ?_, ?_⟩
    · rw [Nat.zero_add, hP.at_ (by omega) (by omega)]
      simp [e]
    · simp only [List.getD_eq_getElem?_getD, h1, h2, Option.getD_some]
      exact hq

set_option maxRecDepth 100000 in
set_option maxHeartbeats 2000000 in
theorem stepsOf_any (A : Option Addr) (c : Nat) (l : List Task) (w : World) (hA : TasksAt w A l) (HI : Hid (tasksOk l = true)) (hp : ∀ x ∈ l, x.after.length ≤ 1048576) :
    Calls Tryd.prog 73 #[.slice A l.length c] w fun e w' => e = .returned (.slice (some ⟨w.heap.size, 0, none⟩) l.length l.length) ∧ (∃ G, PtrRow w' w.heap.size l.length l.length G ∧ StepsUpto w' w.heap.size l (startsEarlyL l) l.length G) ∧ Below w.heap.size w w' := by
  have HP := hide hp
  clear hp
  have h7 := tasksOk_len HI.out
  obtain ⟨ss, HSS⟩ : ∃ ss, Hid (startsEarlyL l = ss) := ⟨_, hide rfl⟩
  have HSL : Hid (ss.length = l.length) := hide (by rw [← HSS.out]; exact startsEarlyL_len HI.out)
  have HSO : Hid (∀ t ∈ ss, 0 ≤ t ∧ t ≤ 210) := hide (by rw [← HSS.out]; exact startsEarlyL_ok HI.out)
  have HR0 := hide (PtrRow.made w l.length (fun _ => 0))
  have hmk := make_steps l.length (by omega)
  rw [HSS.out]
  go_enter Tryd.func73, Tryd.ntmps73
  go_wp2_with fail
  clear hmk
  go_loopw [14] (fun i wr => ∃ k : Nat, k ≤ l.length ∧ i = .int .i64 k ∧ Hid (∃ G, PtrRow wr w.heap.size l.length k G ∧ StepsUpto wr w.heap.size l ss k G) ∧ w.heap.size < wr.heap.size ∧ Below w.heap.size w wr) (fun i _ => l.length - (intOf i).toNat)
  case atStart => exact ⟨0, Nat.zero_le _, rfl, hide ⟨_, HR0.out, fun i x s hi => absurd hi (by omega)⟩, by simp, by go_grown⟩
  case round =>
    clear HR0
    obtain ⟨k, hk, rfl, HG, hg0, hb⟩ := hrel
    have hsz := hb.size
    by_cases hlt : k < l.length
    · obtain ⟨x, HX⟩ : ∃ x, Hid (l[k]? = some x) := ⟨_, hide (List.getElem?_eq_getElem hlt)⟩
      obtain ⟨b, off, C, d, rfl, hbl, hc1, hc2, hpa⟩ := (hA.below hb) k x HX.out
      have hx : x.after.length ≤ 1048576 := HP.out _ (List.mem_of_getElem? HX.out)
      have HT : Hid (∀ a ∈ x.after, 0 ≤ a ∧ a < (k : Int)) := hide (tasksOk_at HI.out HX.out).2
      obtain ⟨hy0, hy1⟩ := (tasksOk_at HI.out HX.out).1
      have HSK : Hid (ss[k]? = some (maxFrom 0 (x.after.map (fun a => ss.getD a.toNat 0 + (l.getD a.toNat default).span)))) := hide (by
        have := startsEarlyL_at HI.out HX.out
        rw [HSS.out] at this
        exact this)
      obtain ⟨G, hG⟩ := HG.out
      have HPA := hide hpa
      have hz : (0 : Int) ≤ k := by omega
      have hz2 : (k : Int) < l.length := by omega
      have hmk := make_steps x.after.length hx
      obtain ⟨wo, rfl⟩ : ∃ wo : World, wo = wr := ⟨_, rfl⟩
      obtain ⟨n, hn⟩ : ∃ n, wo.heap.size = n := ⟨_, rfl⟩
      have HN := hide hn
      have hGk : Hid (∀ i, i < k → i < l.length → w.heap.size < G i ∧ G i < n) := hide (fun i hi hil => by
        have := hG.2 i _ _ hi (List.getElem?_eq_getElem hil) (List.getElem?_eq_getElem (show i < ss.length by rw [HSL.out]; exact hil))
        have h2 := this.2.lt
        exact ⟨this.1, by omega⟩)
      have HGG := hide hG
      have hb1 : Below wo.heap.size wo (wo.alloc (.cells #[.int .i64 x.span, .slice C x.after.length d] 50)) := by go_grown
      have hb2 : Below wo.heap.size wo ((wo.alloc (.cells #[.int .i64 x.span, .slice C x.after.length d] 50)).alloc (.cells (madeCells #[.pointer none] x.after.length) 95)) := by go_grown
      have HR1 := hide (PtrRow.made (wo.alloc (.cells #[.int .i64 x.span, .slice C x.after.length d] 50)) x.after.length (fun i => G (x.after.getD i 0).toNat))
      clear hG hpa hn HG
      go_wp2_with fail
      clear hmk
      go_loopw [26] (fun i wi => ∃ j : Nat, j ≤ x.after.length ∧ i = .int .i64 j ∧ Hid (PtrRow wi w.heap.size l.length k G ∧ StepsUpto wi w.heap.size l ss k G ∧ PtrRow wi (wo.heap.size + 1) x.after.length j (fun i => G (x.after.getD i 0).toNat)) ∧ wi.cell? ⟨wo.heap.size, 0, none⟩ = some (.int .i64 x.span) ∧ wo.heap.size + 1 < wi.heap.size ∧ Below wo.heap.size wo wi) (fun i _ => x.after.length - (intOf i).toNat)
      case atStart => exact ⟨0, Nat.zero_le _, rfl, hide ⟨HGG.out.1.below hb2, HGG.out.2.below hb2, by have := HR1.out; simpa using this⟩, by simp, by simp, hb2⟩
      case round =>
        clear HR1 hb1 hb2
        obtain ⟨j, hj, rfl, HJ, hq1, hsl, hbi⟩ := hrel
        have hbw := next hb hbi
        have hsz2 := hbi.size
        have hkl : k ≤ l.length := hk
        by_cases hjt : j < x.after.length
        · obtain ⟨a, HAJ⟩ : ∃ a, Hid (x.after[j]? = some a) := ⟨_, hide (List.getElem?_eq_getElem hjt)⟩
          obtain ⟨b2, off2, rfl, hbl2, hd⟩ := (HPA.out.below hbi) j a HAJ.out
          obtain ⟨m, rfl, hmk⟩ : ∃ m : Nat, a = m ∧ m < k := by
            have := HT.out a (List.mem_of_getElem? HAJ.out)
            exact ⟨a.toNat, by omega, by omega⟩
          have hs1 := HJ.out.1.at_ hmk (by omega)
          obtain ⟨v3, hq3⟩ : ∃ v, wr.cell? ⟨wo.heap.size + 1, j, none⟩ = some v := ⟨_, World.rowIs.cell HJ.out.2.2 hjt⟩
          have hf3 := World.rowIs.frozen HJ.out.2.2 j
          have HJ2 : Hid (PtrRow (wr.setCell ⟨wo.heap.size + 1, j, none⟩ (.pointer (some ⟨G m, 0, none⟩))) w.heap.size l.length k G ∧ StepsUpto (wr.setCell ⟨wo.heap.size + 1, j, none⟩ (.pointer (some ⟨G m, 0, none⟩))) w.heap.size l ss k G ∧ PtrRow (wr.setCell ⟨wo.heap.size + 1, j, none⟩ (.pointer (some ⟨G m, 0, none⟩))) (wo.heap.size + 1) x.after.length (j + 1) (fun i => G (x.after.getD i 0).toNat)) := hide ⟨HJ.out.1.far (by simp; omega) _, HJ.out.2.1.far (fun i hi hil => by have h1 := (hGk.out i hi hil).2; have h2 := HN.out; omega), (HJ.out.2.2.step (b := G m)).congr (fun i hi => by
            by_cases e : i = j
            · subst e
              simp [HAJ.out]
            · simp [e])⟩
          have hq1' : (wr.setCell ⟨wo.heap.size + 1, j, none⟩ (.pointer (some ⟨G m, 0, none⟩))).cell? ⟨wo.heap.size, 0, none⟩ = some (.int .i64 x.span) := (World.cell?_of_block (a := ⟨wo.heap.size, 0, none⟩) (heap_other (show wo.heap.size ≠ wo.heap.size + 1 by omega))).trans hq1
          have hv : (0 : Int) ≤ j := by omega
          have hv2 : (j : Int) < x.after.length := by omega
          have hm0 : (0 : Int) ≤ m := by omega
          have hm1 : (m : Int) < l.length := by omega
          go_wp2_with fail
          go_roundw
          case rel => exact ⟨j + 1, hjt, by go_num, HJ2, hq1', by simpa using hsl, by go_grown⟩
          case measure => simp [intOf]; omega
        · obtain rfl : j = x.after.length := by omega
          have hst := before_at HJ.out.2.1 HJ.out.2.2 rfl hk (by rw [HSL.out]; exact hk) HT.out
          have hM : Hid (∀ p ∈ x.after.map (fun a => (G a.toNat, ss.getD a.toNat 0 + (l.getD a.toNat default).span)), p.2 ≤ 900000) := hide (fun p hp => by
            obtain ⟨a, _, rfl⟩ := List.mem_map.1 hp
            have g1 := getD_range (by omega) HSO.out a.toNat
            have g2 := getD_span (tasks_span HI.out) a.toNat
            simp only
            omega)
          have hNS := newStepQ_any x.span _ x.after.length _ wr hy0 hy1 hst (by rw [List.length_map]; exact hx) hM
          rw [List.length_map, List.map_map] at hNS
          have HNS := hide hNS
          clear hNS hst hM
          go_wp2_with fail
          refine HNS.out.mono ?_
          rintro e w3 ⟨g3, rfl, hg3, hQ, hB3⟩
          have hR3 := HJ.out.1.below hB3
          have hU3 := HJ.out.2.1.below hB3
          have hsz3 := hB3.size
          have hb3 := next hbw hB3
          obtain ⟨v3, hq3⟩ : ∃ v, w3.cell? ⟨w.heap.size, k, none⟩ = some v := ⟨_, World.rowIs.cell hR3 hlt⟩
          have hf3 := World.rowIs.frozen hR3 k
          have HG2 : Hid (∃ G, PtrRow (w3.setCell ⟨w.heap.size, k, none⟩ (.pointer (some ⟨g3, 0, none⟩))) w.heap.size l.length (k + 1) G ∧ StepsUpto (w3.setCell ⟨w.heap.size, k, none⟩ (.pointer (some ⟨g3, 0, none⟩))) w.heap.size l ss (k + 1) G) := hide ⟨_, hR3.step (b := g3), fun i y s hi hy hs => by
            by_cases e : i = k
            · subst e
              rw [HX.out] at hy
              injection hy with hy
              subst hy
              rw [HSK.out] at hs
              injection hs with hs
              subst hs
              rw [if_pos rfl]
              exact ⟨by omega, hQ.far (by omega)⟩
            · rw [if_neg e]
              obtain ⟨h1, h2⟩ := hU3 i y s (by omega) hy hs
              exact ⟨h1, h2.far (by omega)⟩⟩
          clear hR3 hU3 hQ HNS
          go_wp2_with fail
          go_roundw
          case rel => exact ⟨k + 1, hlt, by go_num, HG2, by simp; omega, by go_grown⟩
          case measure => simp [intOf]; omega
    · have HE : Hid (∃ G, PtrRow wr w.heap.size l.length l.length G ∧ StepsUpto wr w.heap.size l ss l.length G) := by
        obtain rfl : l.length = k := by omega
        exact HG
      go_wp2_with fail
      go_ret
      exact ⟨rfl, HE.out, hb⟩
end Go.Proofs.YtgagfaajilbmmaaDoor

namespace Go.Proofs.YtgagfaajilbmmaaDoor
open Go.RowKit Go.ChangeShapes Go.WideShapes Go.ChangeAt Go.Deep

def stepCells (sp st : Int) (V : Value) : Nat → Value := fun j => if j = 0 then .int .i64 sp else if j = 1 then .int .i64 st else V
theorem stepRow_new (w : World) (sp st : Int) (V : Value) : (w.alloc (.cells #[.int .i64 sp, .int .i64 st, V] 99)).rowIs w.heap.size 99 3 (stepCells sp st V) :=
  ⟨_, heap_alloc_new w _, rfl, fun i hi => by rcases (by omega : i = 0 ∨ i = 1 ∨ i = 2) with rfl | rfl | rfl <;> rfl⟩
theorem stepRow_0 {w : World} {b : Nat} {sp st : Int} {V : Value} (h : w.rowIs b 99 3 (stepCells sp st V)) : w.cell? ⟨b, 0, none⟩ = some (.int .i64 sp) := World.rowIs.cell h (i := 0) (by omega)
theorem stepRow_1 {w : World} {b : Nat} {sp st : Int} {V : Value} (h : w.rowIs b 99 3 (stepCells sp st V)) : w.cell? ⟨b, 1, none⟩ = some (.int .i64 st) := World.rowIs.cell h (i := 1) (by omega)
theorem stepRow_2 {w : World} {b : Nat} {sp st : Int} {V : Value} (h : w.rowIs b 99 3 (stepCells sp st V)) : w.cell? ⟨b, 2, none⟩ = some V := World.rowIs.cell h (i := 2) (by omega)
theorem stepRow_set {w : World} {b : Nat} {sp st st' : Int} {V : Value} (h : w.rowIs b 99 3 (stepCells sp st V)) : (w.setCell ⟨b, 1, none⟩ (.int .i64 st')).rowIs b 99 3 (stepCells sp st' V) :=
  (World.rowIs.set h 1 (.int .i64 st')).congr (fun i hi => by rcases (by omega : i = 0 ∨ i = 1 ∨ i = 2) with rfl | rfl | rfl <;> rfl)

/-- The steps of the first k tasks behind the pointers of G, each with its time and its own row H of what comes before it; the blocks rise. -/
def StepsR (w : World) (lo : Nat) (l : List Task) (ss : List Int) (k : Nat) (G H : Nat → Nat) : Prop :=
  ∀ i x s, i < k → l[i]? = some x → ss[i]? = some s → lo < H i ∧ H i < G i ∧ (∀ i', i' < i → G i' < H i) ∧ w.rowIs (G i) 99 3 (stepCells x.span s (.slice (some ⟨H i, 0, none⟩) x.after.length x.after.length)) ∧ PtrRow w (H i) x.after.length x.after.length (fun j => G (x.after.getD j 0).toNat)
theorem StepsR.below {w w' : World} {lo k : Nat} {l : List Task} {ss : List Int} {G H : Nat → Nat} (h : StepsR w lo l ss k G H) (hB : Below w.heap.size w w') : StepsR w' lo l ss k G H := fun i x s hi hx hs => by
  obtain ⟨h1, h2, h3, h4, h5⟩ := h i x s hi hx hs
  exact ⟨h1, h2, h3, World.rowIs.of_block h4 (hB.block _ (World.rowIs.lt h4)), h5.below hB⟩
theorem StepsR.far {w : World} {lo k g j : Nat} {u : Value} {l : List Task} {ss : List Int} {G H : Nat → Nat} (h : StepsR w lo l ss k G H) (hne : ∀ i, i < k → i < l.length → G i < g) : StepsR (w.setCell ⟨g, j, none⟩ u) lo l ss k G H := fun i x s hi hx hs => by
  obtain ⟨h1, h2, h3, h4, h5⟩ := h i x s hi hx hs
  have := hne i hi (List.getElem?_eq_some_iff.1 hx).1
  exact ⟨h1, h2, h3, World.rowIs.setOther h4 (by simp; omega) _, h5.far (by simp; omega) _⟩
theorem StepsR.upto {w : World} {lo k : Nat} {l : List Task} {ss : List Int} {G H : Nat → Nat} (h : StepsR w lo l ss k G H) (hl : ∀ y ∈ l, 0 ≤ y.span ∧ y.span ≤ 30) (hs : ∀ t ∈ ss, 0 ≤ t ∧ t ≤ 210) : StepsUpto w lo l ss k G := fun i x s hi hx hss => by
  obtain ⟨h1, h2, h3, h4, h5⟩ := h i x s hi hx hss
  have a := hl x (List.mem_of_getElem? hx)
  have b := hs s (List.mem_of_getElem? hss)
  exact ⟨by omega, World.rowIs.lt h4, stepRow_0 h4, stepRow_1 h4, a.1, b.1, by omega⟩

set_option maxRecDepth 100000 in
set_option maxHeartbeats 2000000 in
theorem newStepR_any (sp : Int) (A : Option Addr) (c : Nat) (bds : List (Nat × Int)) (w : World) (hA : StepsAt w A bds) (hl : bds.length ≤ 1048576) (HM : Hid (∀ p ∈ bds, p.2 ≤ 900000)) :
    Calls Tryd.prog 109 #[.int .i64 sp, .slice A bds.length c] w fun e w' => ∃ g, e = .returned (.pointer (some ⟨g, 0, none⟩)) ∧ w.heap.size ≤ g ∧ w'.rowIs g 99 3 (stepCells sp (maxFrom 0 (bds.map (·.2))) (.slice A bds.length c)) ∧ Below w.heap.size w w' := by
  have HR0 := hide (stepRow_new w sp 0 (.slice A bds.length c))
  go_enter Tryd.func109, Tryd.ntmps109
  go_wp2_with fail
  go_loopw [14] (fun i wr => ∃ (k : Nat) (st : Int), k ≤ bds.length ∧ i = .int .i64 k ∧ 0 ≤ st ∧ st ≤ 900000 ∧ Hid (maxFrom 0 (bds.map (·.2)) = maxFrom st ((bds.map (·.2)).drop k)) ∧ Hid (wr.rowIs w.heap.size 99 3 (stepCells sp st (.slice A bds.length c))) ∧ w.heap.size < wr.heap.size ∧ Below w.heap.size w wr) (fun i _ => bds.length - (intOf i).toNat)
  case atStart => exact ⟨0, 0, Nat.zero_le _, rfl, by omega, by omega, hide rfl, HR0.out, by simp, by go_grown⟩
  case round =>
    obtain ⟨k, st, hk, rfl, hs0, hs1, HG, HRW, hsl, hb⟩ := hrel
    have hc0 := stepRow_0 HRW.out
    have hc1 := stepRow_1 HRW.out
    have hf1 := World.rowIs.frozen HRW.out 1
    have hsz := hb.size
    by_cases hlt : k < bds.length
    · obtain ⟨ab, off, rfl, hbl, hcp, hst⟩ := (hA.below hb) k bds[k] (List.getElem?_eq_getElem hlt)
      have hMb := HM.out _ (List.getElem_mem hlt)
      have HD : Hid ((bds.map (·.2)).drop k = bds[k].2 :: (bds.map (·.2)).drop (k + 1)) := hide (by
        rw [List.drop_eq_getElem_cons (by rw [List.length_map]; exact hlt)]
        simp)
      generalize bds[k] = p at *
      obtain ⟨b, d⟩ := p
      simp only at hcp hst hMb HD
      have hd0 : 0 ≤ d := by obtain ⟨_, _, _, _, a, b', c', _⟩ := hst.ex; omega
      have HDN : Hid (Calls Tryd.prog 111 #[.pointer (some ⟨b, 0, none⟩)] wr.drew fun e w' => e = .returned (.int .i64 d) ∧ ∃ m, w' = wr.drew.drewN m) := hide (done_any b d wr.drew ⟨hst.lt, hst.ex⟩)
      have HG2 : Hid (maxFrom 0 (bds.map (·.2)) = maxFrom (if st < d then d else st) ((bds.map (·.2)).drop (k + 1))) := hide (by rw [HG.out, HD.out, maxFrom])
      have hz : (0 : Int) ≤ k := by omega
      have hz2 : (k : Int) < bds.length := by omega
      clear hst hbl
      go_wp2_with fail
      go_region_law ((go_simp; go_at_call 111; refine HDN.out.mono ?_; rintro e w5 ⟨rfl, m, rfl⟩))
      all_goals
        go_wp2_with fail
        go_roundw
        case rel =>
          have hbq : Below w.heap.size w (wr.drewN (1 + m)) := ⟨hb.os, hb.tape, hb.output, hb.size, hb.block⟩
          exact ⟨k + 1, if st < d then d else st, hlt, by go_num, by split <;> omega, by split <;> omega, HG2, hide (stepRow_set (st' := if st < d then d else st) HRW.out), by simpa using hsl, by go_grown⟩
        case measure => simp [intOf]; omega
    · have H3 : Hid (maxFrom 0 (bds.map (·.2)) = st) := hide (by rw [HG.out, List.drop_of_length_le (by rw [List.length_map]; omega), maxFrom])
      go_wp2_with fail
      go_ret
      exact ⟨_, rfl, Nat.le_refl _, by rw [H3.out]; exact HRW.out, hb⟩

set_option maxRecDepth 100000 in
set_option maxHeartbeats 2000000 in
theorem stepsOfR_any (A : Option Addr) (c : Nat) (l : List Task) (w : World) (hA : TasksAt w A l) (HI : Hid (tasksOk l = true)) (hp : ∀ x ∈ l, x.after.length ≤ 1048576) :
    Calls Tryd.prog 73 #[.slice A l.length c] w fun e w' => e = .returned (.slice (some ⟨w.heap.size, 0, none⟩) l.length l.length) ∧ (∃ G H, PtrRow w' w.heap.size l.length l.length G ∧ StepsR w' w.heap.size l (startsEarlyL l) l.length G H) ∧ Below w.heap.size w w' := by
  have HP := hide hp
  clear hp
  have h7 := tasksOk_len HI.out
  obtain ⟨ss, HSS⟩ : ∃ ss, Hid (startsEarlyL l = ss) := ⟨_, hide rfl⟩
  have HSL : Hid (ss.length = l.length) := hide (by rw [← HSS.out]; exact startsEarlyL_len HI.out)
  have HSO : Hid (∀ t ∈ ss, 0 ≤ t ∧ t ≤ 210) := hide (by rw [← HSS.out]; exact startsEarlyL_ok HI.out)
  have HR0 := hide (PtrRow.made w l.length (fun _ => 0))
  have hmk := make_steps l.length (by omega)
  rw [HSS.out]
  go_enter Tryd.func73, Tryd.ntmps73
  go_wp2_with fail
  clear hmk
  go_loopw [14] (fun i wr => ∃ k : Nat, k ≤ l.length ∧ i = .int .i64 k ∧ Hid (∃ G H, PtrRow wr w.heap.size l.length k G ∧ StepsR wr w.heap.size l ss k G H) ∧ w.heap.size < wr.heap.size ∧ Below w.heap.size w wr) (fun i _ => l.length - (intOf i).toNat)
  case atStart => exact ⟨0, Nat.zero_le _, rfl, hide ⟨_, fun _ => 0, HR0.out, fun i x s hi => absurd hi (by omega)⟩, by simp, by go_grown⟩
  case round =>
    clear HR0
    obtain ⟨k, hk, rfl, HG, hg0, hb⟩ := hrel
    have hsz := hb.size
    by_cases hlt : k < l.length
    · obtain ⟨x, HX⟩ : ∃ x, Hid (l[k]? = some x) := ⟨_, hide (List.getElem?_eq_getElem hlt)⟩
      obtain ⟨b, off, C, d, rfl, hbl, hc1, hc2, hpa⟩ := (hA.below hb) k x HX.out
      have hx : x.after.length ≤ 1048576 := HP.out _ (List.mem_of_getElem? HX.out)
      have HT : Hid (∀ a ∈ x.after, 0 ≤ a ∧ a < (k : Int)) := hide (tasksOk_at HI.out HX.out).2
      obtain ⟨hy0, hy1⟩ := (tasksOk_at HI.out HX.out).1
      have HSK : Hid (ss[k]? = some (maxFrom 0 (x.after.map (fun a => ss.getD a.toNat 0 + (l.getD a.toNat default).span)))) := hide (by
        have := startsEarlyL_at HI.out HX.out
        rw [HSS.out] at this
        exact this)
      obtain ⟨G, H, hG⟩ := HG.out
      have HPA := hide hpa
      have hz : (0 : Int) ≤ k := by omega
      have hz2 : (k : Int) < l.length := by omega
      have hmk := make_steps x.after.length hx
      obtain ⟨wo, rfl⟩ : ∃ wo : World, wo = wr := ⟨_, rfl⟩
      obtain ⟨n, hn⟩ : ∃ n, wo.heap.size = n := ⟨_, rfl⟩
      have HN := hide hn
      have hGk : Hid (∀ i, i < k → i < l.length → w.heap.size < G i ∧ G i < n) := hide (fun i hi hil => by
        have := hG.2 i _ _ hi (List.getElem?_eq_getElem hil) (List.getElem?_eq_getElem (show i < ss.length by rw [HSL.out]; exact hil))
        have h2 := World.rowIs.lt this.2.2.2.1
        exact ⟨by omega, by omega⟩)
      have HGG := hide hG
      have hb1 : Below wo.heap.size wo (wo.alloc (.cells #[.int .i64 x.span, .slice C x.after.length d] 50)) := by go_grown
      have hb2 : Below wo.heap.size wo ((wo.alloc (.cells #[.int .i64 x.span, .slice C x.after.length d] 50)).alloc (.cells (madeCells #[.pointer none] x.after.length) 95)) := by go_grown
      have HR1 := hide (PtrRow.made (wo.alloc (.cells #[.int .i64 x.span, .slice C x.after.length d] 50)) x.after.length (fun i => G (x.after.getD i 0).toNat))
      clear hG hpa hn HG
      go_wp2_with fail
      clear hmk
      go_loopw [26] (fun i wi => ∃ j : Nat, j ≤ x.after.length ∧ i = .int .i64 j ∧ Hid (PtrRow wi w.heap.size l.length k G ∧ StepsR wi w.heap.size l ss k G H ∧ PtrRow wi (wo.heap.size + 1) x.after.length j (fun i => G (x.after.getD i 0).toNat)) ∧ wi.cell? ⟨wo.heap.size, 0, none⟩ = some (.int .i64 x.span) ∧ wo.heap.size + 1 < wi.heap.size ∧ Below wo.heap.size wo wi) (fun i _ => x.after.length - (intOf i).toNat)
      case atStart => exact ⟨0, Nat.zero_le _, rfl, hide ⟨HGG.out.1.below hb2, HGG.out.2.below hb2, by have := HR1.out; simpa using this⟩, by simp, by simp, hb2⟩
      case round =>
        clear HR1 hb1 hb2
        obtain ⟨j, hj, rfl, HJ, hq1, hsl, hbi⟩ := hrel
        have hbw := next hb hbi
        have hsz2 := hbi.size
        have hkl : k ≤ l.length := hk
        by_cases hjt : j < x.after.length
        · obtain ⟨a, HAJ⟩ : ∃ a, Hid (x.after[j]? = some a) := ⟨_, hide (List.getElem?_eq_getElem hjt)⟩
          obtain ⟨b2, off2, rfl, hbl2, hd⟩ := (HPA.out.below hbi) j a HAJ.out
          obtain ⟨m, rfl, hmk⟩ : ∃ m : Nat, a = m ∧ m < k := by
            have := HT.out a (List.mem_of_getElem? HAJ.out)
            exact ⟨a.toNat, by omega, by omega⟩
          have hs1 := HJ.out.1.at_ hmk (by omega)
          obtain ⟨v3, hq3⟩ : ∃ v, wr.cell? ⟨wo.heap.size + 1, j, none⟩ = some v := ⟨_, World.rowIs.cell HJ.out.2.2 hjt⟩
          have hf3 := World.rowIs.frozen HJ.out.2.2 j
          have HJ2 : Hid (PtrRow (wr.setCell ⟨wo.heap.size + 1, j, none⟩ (.pointer (some ⟨G m, 0, none⟩))) w.heap.size l.length k G ∧ StepsR (wr.setCell ⟨wo.heap.size + 1, j, none⟩ (.pointer (some ⟨G m, 0, none⟩))) w.heap.size l ss k G H ∧ PtrRow (wr.setCell ⟨wo.heap.size + 1, j, none⟩ (.pointer (some ⟨G m, 0, none⟩))) (wo.heap.size + 1) x.after.length (j + 1) (fun i => G (x.after.getD i 0).toNat)) := hide ⟨HJ.out.1.far (by simp; omega) _, HJ.out.2.1.far (fun i hi hil => by have h1 := (hGk.out i hi hil).2; have h2 := HN.out; omega), (HJ.out.2.2.step (b := G m)).congr (fun i hi => by
            by_cases e : i = j
            · subst e
              simp [HAJ.out]
            · simp [e])⟩
          have hq1' : (wr.setCell ⟨wo.heap.size + 1, j, none⟩ (.pointer (some ⟨G m, 0, none⟩))).cell? ⟨wo.heap.size, 0, none⟩ = some (.int .i64 x.span) := (World.cell?_of_block (a := ⟨wo.heap.size, 0, none⟩) (heap_other (show wo.heap.size ≠ wo.heap.size + 1 by omega))).trans hq1
          have hv : (0 : Int) ≤ j := by omega
          have hv2 : (j : Int) < x.after.length := by omega
          have hm0 : (0 : Int) ≤ m := by omega
          have hm1 : (m : Int) < l.length := by omega
          go_wp2_with fail
          go_roundw
          case rel => exact ⟨j + 1, hjt, by go_num, HJ2, hq1', by simpa using hsl, by go_grown⟩
          case measure => simp [intOf]; omega
        · obtain rfl : j = x.after.length := by omega
          have hst := before_at (HJ.out.2.1.upto (tasks_span HI.out) HSO.out) HJ.out.2.2 rfl hk (by rw [HSL.out]; exact hk) HT.out
          have hM : Hid (∀ p ∈ x.after.map (fun a => (G a.toNat, ss.getD a.toNat 0 + (l.getD a.toNat default).span)), p.2 ≤ 900000) := hide (fun p hp => by
            obtain ⟨a, _, rfl⟩ := List.mem_map.1 hp
            have g1 := getD_range (by omega) HSO.out a.toNat
            have g2 := getD_span (tasks_span HI.out) a.toNat
            simp only
            omega)
          have hNS := newStepR_any x.span _ x.after.length _ wr hst (by rw [List.length_map]; exact hx) hM
          rw [List.length_map, List.map_map] at hNS
          have HNS := hide hNS
          clear hNS hst hM
          go_wp2_with fail
          refine HNS.out.mono ?_
          rintro e w3 ⟨g3, rfl, hg3, hQ, hB3⟩
          have hJ3 := HJ.out.2.2.below hB3
          have hR3 := HJ.out.1.below hB3
          have hU3 := HJ.out.2.1.below hB3
          have hsz3 := hB3.size
          have hb3 := next hbw hB3
          obtain ⟨v3, hq3⟩ : ∃ v, w3.cell? ⟨w.heap.size, k, none⟩ = some v := ⟨_, World.rowIs.cell hR3 hlt⟩
          have hf3 := World.rowIs.frozen hR3 k
          have HG2 : Hid (∃ G H, PtrRow (w3.setCell ⟨w.heap.size, k, none⟩ (.pointer (some ⟨g3, 0, none⟩))) w.heap.size l.length (k + 1) G ∧ StepsR (w3.setCell ⟨w.heap.size, k, none⟩ (.pointer (some ⟨g3, 0, none⟩))) w.heap.size l ss (k + 1) G H) := hide ⟨_, fun i => if i = k then wo.heap.size + 1 else H i, hR3.step (b := g3), fun i y s hi hy hs => by
            by_cases e : i = k
            · subst e
              rw [HX.out] at hy
              injection hy with hy
              subst hy
              rw [HSK.out] at hs
              injection hs with hs
              subst hs
              simp only [if_true]
              refine ⟨by omega, by omega, fun i' hi' => ?_, World.rowIs.setOther hQ (by simp; omega) _, ?_⟩
              · rw [if_neg (by omega)]
                have h1 := (hGk.out i' hi' (by omega)).2
                have h2 := HN.out
                omega
              · refine PtrRow.congr (hJ3.far (by simp; omega) _) (fun j hj => ?_)
                have hr := HT.out (x.after.getD j 0) (List.mem_of_getElem? (by simp [hj] : x.after[j]? = some (x.after.getD j 0)))
                rw [if_neg (by omega)]
            · simp only [if_neg e]
              obtain ⟨h1, h2, h3, h4, h5⟩ := hU3 i y s (by omega) hy hs
              refine ⟨h1, h2, fun i' hi' => by rw [if_neg (by omega)]; exact h3 i' hi', World.rowIs.setOther h4 (by simp; omega) _, ?_⟩
              refine PtrRow.congr (h5.far (by simp; omega) _) (fun j hj => ?_)
              have hr := (tasksOk_at HI.out hy).2 (y.after.getD j 0) (List.mem_of_getElem? (by simp [hj] : y.after[j]? = some (y.after.getD j 0)))
              rw [if_neg (by omega)]⟩
          clear hR3 hU3 hQ HNS hJ3
          go_wp2_with fail
          go_roundw
          case rel => exact ⟨k + 1, hlt, by go_num, HG2, by simp; omega, by go_grown⟩
          case measure => simp [intOf]; omega
    · have HE : Hid (∃ G H, PtrRow wr w.heap.size l.length l.length G ∧ StepsR wr w.heap.size l ss l.length G H) := by
        obtain rfl : l.length = k := by omega
        exact HG
      go_wp2_with fail
      go_ret
      exact ⟨rfl, HE.out, hb⟩
end Go.Proofs.YtgagfaajilbmmaaDoor
