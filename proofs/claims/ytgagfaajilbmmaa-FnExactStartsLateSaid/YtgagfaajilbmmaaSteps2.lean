/- Contract of stepsOf: a row of pointers to the steps of valid tasks, each with its minutes and its earliest time.
   Conditions: the tasks are valid. -/
import Derived.Test.YtgagfaajilbmmaaSteps
namespace Go.Proofs.Ytgagfaajilbmmaa
open Go.RowKit Go.ChangeShapes Go.WideShapes Go.ChangeAt Go.Deep

theorem PtrRow.congr {w : World} {g n k : Nat} {G G' : Nat → Nat} (h : PtrRow w g n k G) (he : ∀ j, j < k → G j = G' j) : PtrRow w g n k G' :=
  World.rowIs.congr h (fun j hj => by
    by_cases e : j < k
    · rw [if_pos e, if_pos e, he j e]
    · rw [if_neg e, if_neg e])
theorem PtrRow.below {w w' : World} {g n k : Nat} {G : Nat → Nat} (h : PtrRow w g n k G) (hB : Below w.heap.size w w') : PtrRow w' g n k G := World.rowIs.of_block h (hB.block _ (World.rowIs.lt h))
theorem PtrRow.far {w : World} {g n k : Nat} {G : Nat → Nat} (h : PtrRow w g n k G) {a : Addr} (ha : g ≠ a.block) (v : Value) : PtrRow (w.setCell a v) g n k G := World.rowIs.setOther h ha v
theorem PtrRow.at_ {w : World} {g n k : Nat} {G : Nat → Nat} (h : PtrRow w g n k G) {j : Nat} (hj : j < k) (hn : j < n) : w.cell? ⟨g, j, none⟩ = some (.pointer (some ⟨G j, 0, none⟩)) := by
  have := World.rowIs.cell h hn
  rw [if_pos hj] at this
  exact this

theorem before_at {w : World} {lo g k m : Nat} {l : List Task} {ss : List Int} {G : Nat → Nat} {af : List Int} (hU : StepsUpto w lo l ss k G) (hP : PtrRow w g m m (fun i => G (af.getD i 0).toNat)) (hm : af.length = m) (hk : k ≤ l.length) (hs : k ≤ ss.length) (ha : ∀ a ∈ af, 0 ≤ a ∧ a < (k : Int)) :
    StepsAt w (some ⟨g, 0, none⟩) (af.map (fun a => (G a.toNat, ss.getD a.toNat 0 + (l.getD a.toNat default).span))) := by
  intro i p hp
  rw [List.getElem?_map] at hp
  cases e : af[i]? with
  | none => rw [e] at hp; cases hp
  | some a =>
    rw [e] at hp
    injection hp with hp
    subst hp
    have hi : i < af.length := (List.getElem?_eq_some_iff.1 e).1
    have hr := ha a (List.mem_of_getElem? e)
    have h1 : l[a.toNat]? = some (l[a.toNat]'(by omega)) := List.getElem?_eq_getElem _
    have h2 : ss[a.toNat]? = some (ss[a.toNat]'(by omega)) := List.getElem?_eq_getElem _
    have hq := (hU a.toNat _ _ (by omega) h1 h2).2.p
    refine ⟨g, 0, rfl, World.rowIs.lt hP, ?_, ?_⟩
    · rw [Nat.zero_add, hP.at_ (by omega) (by omega)]
      simp [e]
    · simp only [List.getD_eq_getElem?_getD, h1, h2, Option.getD_some]
      exact hq

set_option maxRecDepth 100000 in
set_option maxHeartbeats 2000000 in
theorem stepsOf_any (A : Option Addr) (c : Nat) (l : List Task) (w : World) (hA : TasksAt w A l) (HI : Hid (tasksOk l = true)) (hp : ∀ x ∈ l, x.after.length ≤ 1048576) :
    Calls Try.prog 41 #[.slice A l.length c] w fun e w' => e = .returned (.slice (some ⟨w.heap.size, 0, none⟩) l.length l.length) ∧ (∃ G, PtrRow w' w.heap.size l.length l.length G ∧ StepsUpto w' w.heap.size l (startsEarlyL l) l.length G) ∧ Below w.heap.size w w' := by
  have HP := hide hp
  clear hp
  have h7 := tasksOk_len HI.out
  obtain ⟨ss, HSS⟩ : ∃ ss, Hid (startsEarlyL l = ss) := ⟨_, hide rfl⟩
  have HSL : Hid (ss.length = l.length) := hide (by rw [← HSS.out]; exact startsEarlyL_len HI.out)
  have HSO : Hid (∀ t ∈ ss, 0 ≤ t ∧ t ≤ 210) := hide (by rw [← HSS.out]; exact startsEarlyL_ok HI.out)
  have HR0 := hide (PtrRow.made w l.length (fun _ => 0))
  have hmk := make_steps l.length (by omega)
  rw [HSS.out]
  go_enter Try.func41, Try.ntmps41
  go_wp2_with fail
  clear hmk
  go_loopw [14] (fun i wr => ∃ k : Nat, k ≤ l.length ∧ i = .int .i64 k ∧ Hid (∃ G, PtrRow wr w.heap.size l.length k G ∧ StepsUpto wr w.heap.size l ss k G) ∧ w.heap.size < wr.heap.size ∧ Below w.heap.size w wr) (fun i _ => l.length - (intOf i).toNat)
  case atStart => exact ⟨0, Nat.zero_le _, rfl, hide ⟨_, HR0.out, fun i x s hi => absurd hi (by omega)⟩, by simp, by go_grown⟩
  case round =>
    clear HR0
    obtain ⟨k, hk, rfl, HG, hg0, hb⟩ := hrel
    have hsz := hb.size
    by_cases hlt : k < l.length
    · obtain ⟨x, HX⟩ : ∃ x, Hid (l[k]? = some x) := ⟨_, hide (List.getElem?_eq_getElem hlt)⟩
      obtain ⟨b, off, C, d, rfl, hbl, hc1, hc2, hpa⟩ := (hA.below hb) k x HX.out
      have hx : x.after.length ≤ 1048576 := HP.out _ (List.mem_of_getElem? HX.out)
      have HT : Hid (∀ a ∈ x.after, 0 ≤ a ∧ a < (k : Int)) := hide (tasksOk_at HI.out HX.out).2
      obtain ⟨hy0, hy1⟩ := (tasksOk_at HI.out HX.out).1
      have HSK : Hid (ss[k]? = some (maxFrom 0 (x.after.map (fun a => ss.getD a.toNat 0 + (l.getD a.toNat default).span)))) := hide (by
        have := startsEarlyL_at HI.out HX.out
        rw [HSS.out] at this
        exact this)
      obtain ⟨G, hG⟩ := HG.out
      have HPA := hide hpa
      have hz : (0 : Int) ≤ k := by omega
      have hz2 : (k : Int) < l.length := by omega
      have hmk := make_steps x.after.length hx
      obtain ⟨wo, rfl⟩ : ∃ wo : World, wo = wr := ⟨_, rfl⟩
      obtain ⟨n, hn⟩ : ∃ n, wo.heap.size = n := ⟨_, rfl⟩
      have HN := hide hn
      have hGk : Hid (∀ i, i < k → i < l.length → w.heap.size < G i ∧ G i < n) := hide (fun i hi hil => by
        have := hG.2 i _ _ hi (List.getElem?_eq_getElem hil) (List.getElem?_eq_getElem (show i < ss.length by rw [HSL.out]; exact hil))
        have h2 := this.2.lt
        exact ⟨this.1, by omega⟩)
      have HGG := hide hG
      have hb1 : Below wo.heap.size wo (wo.alloc (.cells #[.int .i64 x.span, .slice C x.after.length d] 68)) := by go_grown
      have hb2 : Below wo.heap.size wo ((wo.alloc (.cells #[.int .i64 x.span, .slice C x.after.length d] 68)).alloc (.cells (madeCells #[.pointer none] x.after.length) 77)) := by go_grown
      have HR1 := hide (PtrRow.made (wo.alloc (.cells #[.int .i64 x.span, .slice C x.after.length d] 68)) x.after.length (fun i => G (x.after.getD i 0).toNat))
      clear hG hpa hn HG
      go_wp2_with fail
      clear hmk
      go_loopw [26] (fun i wi => ∃ j : Nat, j ≤ x.after.length ∧ i = .int .i64 j ∧ Hid (PtrRow wi w.heap.size l.length k G ∧ StepsUpto wi w.heap.size l ss k G ∧ PtrRow wi (wo.heap.size + 1) x.after.length j (fun i => G (x.after.getD i 0).toNat)) ∧ wi.cell? ⟨wo.heap.size, 0, none⟩ = some (.int .i64 x.span) ∧ wo.heap.size + 1 < wi.heap.size ∧ Below wo.heap.size wo wi) (fun i _ => x.after.length - (intOf i).toNat)
      case atStart => exact ⟨0, Nat.zero_le _, rfl, hide ⟨HGG.out.1.below hb2, HGG.out.2.below hb2, by have := HR1.out; simpa using this⟩, by simp, by simp, hb2⟩
      case round =>
        clear HR1 hb1 hb2
        obtain ⟨j, hj, rfl, HJ, hq1, hsl, hbi⟩ := hrel
        have hbw := next hb hbi
        have hsz2 := hbi.size
        have hkl : k ≤ l.length := hk
        by_cases hjt : j < x.after.length
        · obtain ⟨a, HAJ⟩ : ∃ a, Hid (x.after[j]? = some a) := ⟨_, hide (List.getElem?_eq_getElem hjt)⟩
          obtain ⟨b2, off2, rfl, hbl2, hd⟩ := (HPA.out.below hbi) j a HAJ.out
          obtain ⟨m, rfl, hmk⟩ : ∃ m : Nat, a = m ∧ m < k := by
            have := HT.out a (List.mem_of_getElem? HAJ.out)
            exact ⟨a.toNat, by omega, by omega⟩
          have hs1 := HJ.out.1.at_ hmk (by omega)
          obtain ⟨v3, hq3⟩ : ∃ v, wr.cell? ⟨wo.heap.size + 1, j, none⟩ = some v := ⟨_, World.rowIs.cell HJ.out.2.2 hjt⟩
          have hf3 := World.rowIs.frozen HJ.out.2.2 j
          have HJ2 : Hid (PtrRow (wr.setCell ⟨wo.heap.size + 1, j, none⟩ (.pointer (some ⟨G m, 0, none⟩))) w.heap.size l.length k G ∧ StepsUpto (wr.setCell ⟨wo.heap.size + 1, j, none⟩ (.pointer (some ⟨G m, 0, none⟩))) w.heap.size l ss k G ∧ PtrRow (wr.setCell ⟨wo.heap.size + 1, j, none⟩ (.pointer (some ⟨G m, 0, none⟩))) (wo.heap.size + 1) x.after.length (j + 1) (fun i => G (x.after.getD i 0).toNat)) := hide ⟨HJ.out.1.far (by simp; omega) _, HJ.out.2.1.far (fun i hi hil => by have h1 := (hGk.out i hi hil).2; have h2 := HN.out; omega), (HJ.out.2.2.step (b := G m)).congr (fun i hi => by
            by_cases e : i = j
            · subst e
              simp [HAJ.out]
            · simp [e])⟩
          have hq1' : (wr.setCell ⟨wo.heap.size + 1, j, none⟩ (.pointer (some ⟨G m, 0, none⟩))).cell? ⟨wo.heap.size, 0, none⟩ = some (.int .i64 x.span) := (World.cell?_of_block (a := ⟨wo.heap.size, 0, none⟩) (heap_other (show wo.heap.size ≠ wo.heap.size + 1 by omega))).trans hq1
          have hv : (0 : Int) ≤ j := by omega
          have hv2 : (j : Int) < x.after.length := by omega
          have hm0 : (0 : Int) ≤ m := by omega
          have hm1 : (m : Int) < l.length := by omega
          go_wp2_with fail
          go_roundw
          case rel => exact ⟨j + 1, hjt, by go_num, HJ2, hq1', by simpa using hsl, by go_grown⟩
          case measure => simp [intOf]; omega
        · obtain rfl : j = x.after.length := by omega
          have hst := before_at HJ.out.2.1 HJ.out.2.2 rfl hk (by rw [HSL.out]; exact hk) HT.out
          have hM : Hid (∀ p ∈ x.after.map (fun a => (G a.toNat, ss.getD a.toNat 0 + (l.getD a.toNat default).span)), p.2 ≤ 900000) := hide (fun p hp => by
            obtain ⟨a, _, rfl⟩ := List.mem_map.1 hp
            have g1 := getD_range (by omega) HSO.out a.toNat
            have g2 := getD_span (tasks_span HI.out) a.toNat
            simp only
            omega)
          have hNS := newStepQ_any x.span _ x.after.length _ wr hy0 hy1 hst (by rw [List.length_map]; exact hx) hM
          rw [List.length_map, List.map_map] at hNS
          have HNS := hide hNS
          clear hNS hst hM
          go_wp2_with fail
          refine HNS.out.mono ?_
          rintro e w3 ⟨g3, rfl, hg3, hQ, hB3⟩
          have hR3 := HJ.out.1.below hB3
          have hU3 := HJ.out.2.1.below hB3
          have hsz3 := hB3.size
          have hb3 := next hbw hB3
          obtain ⟨v3, hq3⟩ : ∃ v, w3.cell? ⟨w.heap.size, k, none⟩ = some v := ⟨_, World.rowIs.cell hR3 hlt⟩
          have hf3 := World.rowIs.frozen hR3 k
          have HG2 : Hid (∃ G, PtrRow (w3.setCell ⟨w.heap.size, k, none⟩ (.pointer (some ⟨g3, 0, none⟩))) w.heap.size l.length (k + 1) G ∧ StepsUpto (w3.setCell ⟨w.heap.size, k, none⟩ (.pointer (some ⟨g3, 0, none⟩))) w.heap.size l ss (k + 1) G) := hide ⟨_, hR3.step (b := g3), fun i y s hi hy hs => by
            by_cases e : i = k
            · subst e
              rw [HX.out] at hy
              injection hy with hy
              subst hy
              rw [HSK.out] at hs
              injection hs with hs
              subst hs
              rw [if_pos rfl]
              exact ⟨by omega, hQ.far (by omega)⟩
            · rw [if_neg e]
              obtain ⟨h1, h2⟩ := hU3 i y s (by omega) hy hs
              exact ⟨h1, h2.far (by omega)⟩⟩
          clear hR3 hU3 hQ HNS
          go_wp2_with fail
          go_roundw
          case rel => exact ⟨k + 1, hlt, by go_num, HG2, by simp; omega, by go_grown⟩
          case measure => simp [intOf]; omega
    · have HE : Hid (∃ G, PtrRow wr w.heap.size l.length l.length G ∧ StepsUpto wr w.heap.size l ss l.length G) := by
        obtain rfl : l.length = k := by omega
        exact HG
      go_wp2_with fail
      go_ret
      exact ⟨rfl, HE.out, hb⟩
end Go.Proofs.Ytgagfaajilbmmaa
