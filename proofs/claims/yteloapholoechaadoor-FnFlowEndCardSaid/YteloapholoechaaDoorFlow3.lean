/- FlowEnds: contracts of the program and of the reference model.
   Conditions: lists have at most 1048576 elements.
   FlowEnd: contracts of the program and of the reference model.
   Conditions: lists have at most 1048576 elements. -/
import Derived.Test.YteloapholoechaaDoorFlow
import Derived.Test.YteloapholoechaaDoorCook2
namespace Go.Proofs.YteloapholoechaaDoor
open Go.RowKit Go.ChangeShapes Go.WideShapes Go.ChangeAt Go.Deep

theorem StepP.grown {w w' : World} {b : Nat} {d : Int} {q : Option Nat} (h : StepP w b d) (hg : w.grownBy w' q) (hne : some b ≠ q) : StepP w' b d := by
  obtain ⟨sp, st, h1, h2, h3⟩ := h.ex
  exact ⟨Nat.lt_of_lt_of_le h.lt hg.size, sp, st, hg.cell h1 hne, hg.cell h2 hne, h3⟩
theorem StepP.alloc {w : World} {b : Nat} {d : Int} (h : StepP w b d) (o : Obj) : StepP (w.alloc o) b d := h.grown (World.grownBy_alloc w o none) (by simp)

theorem flowFit_parts {l : List Dish} {ord : List Int} (h : flowFit l ord = true) : dishesOk l = true ∧ ord.length = l.length ∧ rangeOk ((l.length : Int) - 1) ord = true := by
  unfold flowFit at h
  simp only [Bool.and_eq_true] at h
  obtain ⟨n, hn, hl, hr, _⟩ := orderOkL_parts h.2
  obtain rfl : n = l.length := by omega
  exact ⟨h.1, hl, hr⟩

theorem flow_step {l : List Dish} {ord : List Int} {k q : Nat} {x : Dish} {f s : Int} {e : List Int} (hk : ord[k]? = some (q : Int)) (hx : l[q]? = some x) :
    flowGo l f s (ord.drop k) e = flowGo l (f + x.prep) ((if s < f + x.prep then f + x.prep else s) + x.cook) (ord.drop (k + 1)) (e.set q ((if s < f + x.prep then f + x.prep else s) + x.cook)) := by
  obtain ⟨h1, h2⟩ := List.getElem?_eq_some_iff.1 hk
  rw [List.drop_eq_getElem_cons h1, h2, flowGo]
  simp [List.getD_eq_getElem?_getD, hx]

set_option maxRecDepth 100000 in
set_option maxHeartbeats 4000000 in
theorem implFlowEnds_any (A B : Option Addr) (c d : Nat) (l : List Dish) (ord : List Int) (w : World) (hA : DishesAt w A l) (hl : l.length ≤ 1048576) (hB : IntsAt w B ord) (hm : ord.length ≤ 1048576) :
    Calls Tryd.prog 61 #[.slice A l.length c, .slice B ord.length d] w fun e w' => ∃ v, e = .returned v ∧ IntSl w' w.heap.size v (flowEndsL l ord) ∧ Below w.heap.size w w' := by
  cases hI : flowFit l ord with
  | false =>
    have HI := hide hI
    have H3 : Hid (flowEndsL l ord = []) := hide (by unfold flowEndsL; rw [hI]; rfl)
    clear hI
    go_enter Tryd.func61, Tryd.ntmps61
    go_wp2_with fail
    refine (flowFits_any _ _ _ _ _ _ _ hA hl hB hm).mono ?_
    rintro e w1 ⟨rfl, hB1⟩
    rw [HI.out]
    go_wp2_with fail
    refine bodyPost_ret (results_tmp rfl _ _ _) rfl ⟨.slice none 0 0, rfl, by rw [H3.out]; exact World.ownsRow_nil _ _ _ _, hB1⟩
  | true =>
    have HI := hide hI
    obtain ⟨hdo, hol, hro⟩ := flowFit_parts hI
    have h6 := dishesOk_len hdo
    have HDO := hide hdo
    have HRO := hide hro
    have HOL := hide hol
    have HR : Hid (flowEndsL l ord = flowGo l 0 0 ord (tab l.length (fun _ => 0))) := hide (by unfold flowEndsL; rw [hI]; rfl)
    have hmk := make_ints l.length hl
    clear hI hdo hol hro
    go_enter Tryd.func61, Tryd.ntmps61
    go_wp2_with fail
    refine (flowFits_any _ _ _ _ _ _ _ hA hl hB hm).mono ?_
    rintro e w1 ⟨rfl, hB1⟩
    rw [HI.out]
    have hsz1 := hB1.size
    have hZ := zeros_tab w1 (lo := w.heap.size) l.length hsz1 hl
    have hba : Below w.heap.size w (w1.alloc (.cells (madeCells #[.int .i64 0] l.length) 3)) := hB1.alloc hsz1 _
    go_wp2_with fail
    clear hmk
    refine (newStep_any 0 none 0 [] _ (by omega) (by omega) (fun i p hp => by simp at hp) (by simp) (hide (fun p hp => by simp at hp))).mono ?_
    rintro e w2 ⟨pb, rfl, hpb, hP2, hB2⟩
    have hZ2 := hZ.below hB2
    have hb2 := next hba hB2
    go_wp2_with fail
    refine (newStep_any 0 none 0 [] _ (by omega) (by omega) (fun i p hp => by simp at hp) (by simp) (hide (fun p hp => by simp at hp))).mono ?_
    rintro e w3 ⟨cb, rfl, hcb, hC3, hB3⟩
    have HZ3 := hide (hZ2.below hB3)
    have hb3 := next hb2 hB3
    have HP3 := hide (hP2.below hB3)
    have HC3 := hide hC3
    have hpX : w1.heap.size < pb := by simp at hpb; omega
    have hcX : w1.heap.size < cb := by have := hB2.size; simp at this; omega
    clear hZ hZ2 hP2 hC3 hB2 hB3 hb2 hba hB1 hpb hcb
    go_wp2_with fail
    go_loopw [6, 7, 21] (fun pv cv i wr => ∃ (k pb cb : Nat) (f s : Int) (e : List Int), k ≤ l.length ∧ i = .int .i64 k ∧ pv = .pointer (some ⟨pb, 0, none⟩) ∧ cv = .pointer (some ⟨cb, 0, none⟩) ∧ StepP wr pb f ∧ StepP wr cb s ∧ 0 ≤ f ∧ f ≤ 30 * k ∧ 0 ≤ s ∧ s ≤ 60 * k ∧ w1.heap.size < pb ∧ w1.heap.size < cb ∧ Hid (e.length = l.length ∧ flowEndsL l ord = flowGo l f s (ord.drop k) e) ∧ IntSl wr w.heap.size (.slice (some ⟨w1.heap.size, 0, none⟩) l.length l.length) e ∧ Below w.heap.size w wr) (fun _ _ i _ => l.length - (intOf i).toNat)
    case atStart => exact ⟨0, pb, cb, 0, 0, tab l.length (fun _ => 0), Nat.zero_le _, rfl, rfl, rfl, HP3.out, HC3.out, by omega, by omega, by omega, by omega, hpX, hcX, hide ⟨tab_len _ _, by rw [HR.out]; rfl⟩, HZ3.out, hb3⟩
    case round =>
      clear HZ3 hb3 HP3 HC3 hpX hcX HR
      obtain ⟨k, pb, cb, f, s, e, hk, rfl, rfl, rfl, hP, hC, hf0, hf1, hs0, hs1, hpX, hcX, HE, hS, hb⟩ := hrel
      have hsz := hb.size
      by_cases hlt : k < l.length
      · have hlo : k < ord.length := by rw [HOL.out]; exact hlt
        obtain ⟨b1, off1, rfl, hbl1, hc1⟩ := (hB.below hb) k ord[k] (List.getElem?_eq_getElem hlo)
        have ho := rangeOk_at HRO.out (List.getElem?_eq_getElem hlo)
        have hoe := List.getElem?_eq_getElem hlo
        have HOQ := hide hoe
        generalize ord[k] = o at *
        obtain ⟨q, rfl⟩ : ∃ q : Nat, o = q := ⟨o.toNat, by omega⟩
        have hqn : q < l.length := by omega
        have hqe := List.getElem?_eq_getElem hqn
        obtain ⟨b2, off2, rfl, hbl2, hd1, hd2⟩ := (hA.below hb) q l[q] hqe
        have hx := dishesOk_at HDO.out (List.getElem_mem hqn)
        have HLQ := hide hqe
        have HFS := hide (flow_step (f := f) (s := s) (e := e) hoe hqe)
        have HDA := hide (hA.below hb)
        generalize l[q] = x at *
        obtain ⟨hx0, hx1, hx2, hx3⟩ := hx
        obtain ⟨f', hf'⟩ : ∃ f', f + x.prep = f' := ⟨_, rfl⟩
        obtain ⟨s', hs'⟩ : ∃ s', (if s < f' then f' else s) + x.cook = s' := ⟨_, rfl⟩
        rw [hf', hs'] at HFS
        have hm1 : maxFrom 0 [f] + x.prep = f' := by
          rw [← hf']
          simp only [maxFrom]
          split <;> omega
        have hm2 : maxFrom 0 [f', s] + x.cook = s' := by
          rw [← hs']
          simp only [maxFrom]
          split <;> split <;> split <;> omega
        have hfb : 0 ≤ f' ∧ f' ≤ 30 * (k : Int) + 30 := by omega
        have hsb : 0 ≤ s' ∧ s' ≤ 60 * (k : Int) + 60 := by
          rw [← hs']
          split <;> omega
        have HM2 := hide hm2
        have hz : (0 : Int) ≤ k := by omega
        have hz2 : (k : Int) < ord.length := by omega
        have hz3 : (0 : Int) ≤ q := by omega
        have hz4 : (q : Int) < l.length := by omega
        have hPa := hP.alloc (.cells #[.pointer (some ⟨pb, 0, none⟩)] 86)
        have HSA : Hid (StepsAt (wr.alloc (.cells #[.pointer (some ⟨pb, 0, none⟩)] 86)) (some ⟨wr.heap.size, 0, none⟩) [(pb, f)]) := hide (fun i p hp => by
          cases i with
          | zero =>
            obtain rfl : (pb, f) = p := by simpa using hp
            exact ⟨_, _, rfl, by simp, by simp, hPa⟩
          | succ i => simp at hp)
        have hCa := hC.alloc (.cells #[.pointer (some ⟨pb, 0, none⟩)] 86)
        have hSa : IntSl (wr.alloc (.cells #[.pointer (some ⟨pb, 0, none⟩)] 86)) w.heap.size (.slice (some ⟨w1.heap.size, 0, none⟩) l.length l.length) e := World.ownsRow.alloc hS _
        have hba := hb.alloc hsz (.cells #[.pointer (some ⟨pb, 0, none⟩)] 86)
        have HX0 := hide hsz
        clear ho hoe hqe hs' hf' hm2 hP hC hS
        go_wp2_with fail
        refine (newStep_any x.prep (some ⟨wr.heap.size, 0, none⟩) 1 [(pb, f)] _ hx0 hx1 HSA.out (by simp) (hide (fun p hp => by
          simp only [List.mem_cons, List.not_mem_nil, or_false] at hp
          subst hp
          show f ≤ 900000
          omega))).mono ?_
        rintro e4 w4 ⟨g1, rfl, hg1, hP4, hB4⟩
        rw [show maxFrom 0 (List.map (fun x => x.snd) [(pb, f)]) + x.prep = f' from hm1] at hP4
        have hC4 := hCa.below hB4
        have hS4 := hSa.below hB4
        have hb4 := next hba hB4
        have hsz4 := hb4.size
        have hX4 : w1.heap.size < g1 := by
          have := (World.ownsRow.lt hSa w1.heap.size rfl).2
          omega
        obtain ⟨b3, off3, e3, hbl3, hd3, hd4⟩ := (hA.below hb4) q x HLQ.out
        injection e3 with e3
        injection e3 with e31 e32
        subst e31 e32
        obtain ⟨b5, off5, e5, hbl5, hc5⟩ := (hB.below hb4) k (q : Int) HOQ.out
        injection e5 with e5
        injection e5 with e51 e52
        subst e51 e52
        have hPb := hP4.alloc (.cells #[.pointer (some ⟨g1, 0, none⟩), .pointer (some ⟨cb, 0, none⟩)] 86)
        have hCb := hC4.alloc (.cells #[.pointer (some ⟨g1, 0, none⟩), .pointer (some ⟨cb, 0, none⟩)] 86)
        have hSb : IntSl (w4.alloc (.cells #[.pointer (some ⟨g1, 0, none⟩), .pointer (some ⟨cb, 0, none⟩)] 86)) w.heap.size (.slice (some ⟨w1.heap.size, 0, none⟩) l.length l.length) e := World.ownsRow.alloc hS4 _
        have hbb := hb4.alloc hsz4 (.cells #[.pointer (some ⟨g1, 0, none⟩), .pointer (some ⟨cb, 0, none⟩)] 86)
        have HSB : Hid (StepsAt (w4.alloc (.cells #[.pointer (some ⟨g1, 0, none⟩), .pointer (some ⟨cb, 0, none⟩)] 86)) (some ⟨w4.heap.size, 0, none⟩) [(g1, f'), (cb, s)]) := hide (fun i p hp => by
          match i with
          | 0 =>
            obtain rfl : (g1, f') = p := by simpa using hp
            exact ⟨_, _, rfl, by simp, by simp, hPb⟩
          | 1 =>
            obtain rfl : (cb, s) = p := by simpa using hp
            exact ⟨_, _, rfl, by simp, by simp, hCb⟩
          | i + 2 => simp at hp)
        clear hP4 hC4 hS4 hB4 hPa hCa hSa hba HSA
        go_wp2_with fail
        refine (newStep_any x.cook (some ⟨w4.heap.size, 0, none⟩) 2 [(g1, f'), (cb, s)] _ hx2 hx3 HSB.out (by simp) (hide (fun p hp => by
          simp only [List.mem_cons, List.not_mem_nil, or_false] at hp
          rcases hp with rfl | rfl
          · show f' ≤ 900000
            omega
          · show s ≤ 900000
            omega))).mono ?_
        rintro e5 w5 ⟨g2, rfl, hg2, hC5, hB5⟩
        rw [show maxFrom 0 (List.map (fun x => x.snd) [(g1, f'), (cb, s)]) + x.cook = s' from HM2.out] at hC5
        have hP5 := hPb.below hB5
        have hS5 := hSb.below hB5
        have hb5 := next hbb hB5
        have hX5 : w1.heap.size < g2 := by
          have := (World.ownsRow.lt hSb w1.heap.size rfl).2
          omega
        have hqe2 : q < e.length := by rw [HE.out.1]; exact hqn
        have hcq := hS5.cellAt (List.getElem?_eq_getElem hqe2)
        have hfq := hS5.frozenAt q
        generalize e[q] = old at hcq
        obtain ⟨b6, off6, e6, hbl6, hc6⟩ := (hB.below hb5) k (q : Int) HOQ.out
        injection e6 with e6
        injection e6 with e61 e62
        subst e61 e62
        have HDN := hide (done_any g2 s' w5 hC5)
        have HP5 := hide hP5
        have HC5 := hide hC5
        have HS5 := hide hS5
        have hsz5 := hb5.size
        clear hPb hCb hSb hbb HSB hB5 hP5 hC5 hS5
        go_wp2_with fail
        refine HDN.out.mono ?_
        rintro e7 w7 ⟨rfl, m, rfl⟩
        have hq5 : IntSl (w5.drewN m) w.heap.size (.slice (some ⟨w1.heap.size, 0, none⟩) l.length l.length) e := HS5.out
        have g9 := IntSl.grownSet hq5 q s'
        have HS9 := hide (IntSl.store hq5 q s')
        have HP9 := hide (StepP.grown (w := w5.drewN m) ⟨HP5.out.lt, HP5.out.ex⟩ g9 (by intro e; injection e with e; omega))
        have HC9 := hide (StepP.grown (w := w5.drewN m) ⟨HC5.out.lt, HC5.out.ex⟩ g9 (by intro e; injection e with e; omega))
        have hbq : Below w.heap.size w (w5.drewN m) := ⟨hb5.os, hb5.tape, hb5.output, hb5.size, hb5.block⟩
        have HB9 := hide (hbq.grown g9 hbq.size (fun k hk => by injection hk with hk; omega))
        have HE9 : Hid ((e.set q s').length = l.length ∧ flowEndsL l ord = flowGo l f' s' (ord.drop (k + 1)) (e.set q s')) := hide ⟨by rw [List.length_set]; exact HE.out.1, by rw [HE.out.2, HFS.out]⟩
        clear g9 hq5 hbq
        go_wp2_with fail
        go_roundw
        case rel => exact ⟨k + 1, g1, g2, f', s', e.set q s', hlt, by go_num, rfl, rfl, HP9.out, HC9.out, by omega, by omega, by omega, by omega, hX4, hX5, HE9, HS9.out, HB9.out⟩
        case measure => simp [intOf]; omega
      · have H4 : Hid (flowEndsL l ord = e) := hide (by rw [HE.out.2, List.drop_of_length_le (by rw [HOL.out]; omega)]; rfl)
        have hnl : ¬ (k : Int) < ord.length := by rw [HOL.out]; omega
        go_wp2_with fail
        refine bodyPost_ret (results_tmp rfl _ _ _) rfl ⟨_, rfl, by rw [H4.out]; exact hS, hb⟩

set_option maxRecDepth 100000 in
set_option maxHeartbeats 4000000 in
theorem specFlowEnds_any (A B : Option Addr) (c d : Nat) (l : List Dish) (ord : List Int) (w : World) (hA : DishesAt w A l) (hl : l.length ≤ 1048576) (hB : IntsAt w B ord) (hm : ord.length ≤ 1048576) (hc : ord.length ≤ d) :
    Calls Tryd.prog 63 #[.slice A l.length c, .slice B ord.length d] w fun e w' => ∃ v, e = .returned v ∧ IntSl w' w.heap.size v (flowEndsL l ord) ∧ Below w.heap.size w w' := by
  cases hD : dishesOk l with
  | false =>
    have HD := hide hD
    have H3 : Hid (flowEndsL l ord = []) := hide (by unfold flowEndsL flowFit; rw [hD]; rfl)
    clear hD
    go_enter Tryd.func63, Tryd.ntmps63
    go_wp2_with fail
    refine (specDishesValid_any _ _ _ _ hA hl).mono ?_
    rintro e w1 ⟨rfl, hB1⟩
    rw [HD.out]
    have hsz1 := hB1.size
    go_wp2_with fail
    refine bodyPost_ret (results_tmp rfl _ _ _) rfl ⟨_, rfl, by rw [H3.out]; exact World.ownsRow_lit w1 #[] 0 hsz1 (by unfold maxLen; omega) rfl, by go_grown⟩
  | true =>
    have HD := hide hD
    cases hO : orderOkL ord (l.length : Int) with
    | false =>
      have HO := hide hO
      have H3 : Hid (flowEndsL l ord = []) := hide (by unfold flowEndsL flowFit; rw [hO]; simp)
      clear hD hO
      go_enter Tryd.func63, Tryd.ntmps63
      go_wp2_with fail
      refine (specDishesValid_any _ _ _ _ hA hl).mono ?_
      rintro e w1 ⟨rfl, hB1⟩
      rw [HD.out]
      go_wp2_with fail
      refine (specOrderOk_any _ _ _ _ _ (hB.below hB1) hm hc).mono ?_
      rintro e w2 ⟨rfl, hB2⟩
      have hb2 := next hB1 hB2
      rw [HO.out]
      have hsz2 := hb2.size
      go_wp2_with fail
      refine bodyPost_ret (results_tmp rfl _ _ _) rfl ⟨_, rfl, by rw [H3.out]; exact World.ownsRow_lit w2 #[] 0 hsz2 (by unfold maxLen; omega) rfl, by go_grown⟩
    | true =>
      have HO := hide hO
      have hI : flowFit l ord = true := by unfold flowFit; rw [hD, hO]; rfl
      obtain ⟨hdo, hol, hro⟩ := flowFit_parts hI
      have h6 := dishesOk_len hdo
      have HRO := hide hro
      have HOL := hide hol
      have HR : Hid (flowEndsL l ord = flowGo l 0 0 ord (tab l.length (fun _ => 0))) := hide (by unfold flowEndsL; rw [hI]; rfl)
      have hmk := make_ints l.length hl
      clear hI hdo hol hro hD hO
      go_enter Tryd.func63, Tryd.ntmps63
      go_wp2_with fail
      refine (specDishesValid_any _ _ _ _ hA hl).mono ?_
      rintro e w1 ⟨rfl, hB1⟩
      rw [HD.out]
      go_wp2_with fail
      refine (specOrderOk_any _ _ _ _ _ (hB.below hB1) hm hc).mono ?_
      rintro e w2 ⟨rfl, hB2⟩
      have hb2 := next hB1 hB2
      rw [HO.out]
      have hsz2 := hb2.size
      have HZ := hide (zeros_tab w2 (lo := w.heap.size) l.length hsz2 hl)
      go_wp2_with fail
      clear hmk
      go_loopw [6, 7, 8] (fun fv sv i wr => ∃ (k : Nat) (f s : Int) (e : List Int), k ≤ l.length ∧ i = .int .i64 k ∧ fv = .int .i64 f ∧ sv = .int .i64 s ∧ 0 ≤ f ∧ f ≤ 30 * k ∧ 0 ≤ s ∧ s ≤ 60 * k ∧ Hid (e.length = l.length ∧ flowEndsL l ord = flowGo l f s (ord.drop k) e) ∧ IntSl wr w.heap.size (.slice (some ⟨w2.heap.size, 0, none⟩) l.length l.length) e ∧ Below w.heap.size w wr) (fun _ _ i _ => l.length - (intOf i).toNat)
      case atStart => exact ⟨0, 0, 0, tab l.length (fun _ => 0), Nat.zero_le _, rfl, rfl, rfl, by omega, by omega, by omega, by omega, hide ⟨tab_len _ _, by rw [HR.out]; rfl⟩, HZ.out, by go_grown⟩
      case round =>
        clear HZ HR hB1 hB2 hb2
        obtain ⟨k, f, s, e, hk, rfl, rfl, rfl, hf0, hf1, hs0, hs1, HE, hS, hb⟩ := hrel
        have hsz := hb.size
        by_cases hlt : k < l.length
        · have hlo : k < ord.length := by rw [HOL.out]; exact hlt
          obtain ⟨b1, off1, rfl, hbl1, hc1⟩ := (hB.below hb) k ord[k] (List.getElem?_eq_getElem hlo)
          have ho := rangeOk_at HRO.out (List.getElem?_eq_getElem hlo)
          have hoe := List.getElem?_eq_getElem hlo
          generalize ord[k] = o at *
          obtain ⟨q, rfl⟩ : ∃ q : Nat, o = q := ⟨o.toNat, by omega⟩
          have hqn : q < l.length := by omega
          have hqe := List.getElem?_eq_getElem hqn
          obtain ⟨b2, off2, rfl, hbl2, hd1, hd2⟩ := (hA.below hb) q l[q] hqe
          have hx := dishesOk_at HD.out (List.getElem_mem hqn)
          have HFS := hide (flow_step (f := f) (s := s) (e := e) hoe hqe)
          generalize l[q] = x at *
          obtain ⟨xp, xc⟩ := x
          simp only at hd1 hd2 hx HFS
          obtain ⟨hx0, hx1, hx2, hx3⟩ := hx
          obtain ⟨s', hs'⟩ : ∃ s', (if f + xp < s then s else f + xp) + xc = s' := ⟨_, rfl⟩
          have hs2 : (if s < f + xp then f + xp else s) + xc = s' := by
            rw [← hs']
            split <;> split <;> omega
          rw [hs2] at HFS
          have hsb : 0 ≤ s' ∧ s' ≤ 60 * (k : Int) + 60 := by
            rw [← hs']
            split <;> omega
          have hw1 : IntKind.i64.wrap (f + xp) = f + xp := IntWalk.i64_in _ (by omega)
          have hw2 : IntKind.i64.wrap ((if f + xp < s then s else f + xp) + xc) = s' := by rw [hs']; exact IntWalk.i64_in _ (by omega)
          have hqe2 : q < e.length := by rw [HE.out.1]; exact hqn
          have hcq := hS.cellAt (List.getElem?_eq_getElem hqe2)
          have hfq := hS.frozenAt q
          generalize e[q] = old at hcq
          have hgl := (World.ownsRow.lt hS w2.heap.size rfl).2
          have hSa : IntSl (wr.alloc (.cells #[.int .i64 xp, .int .i64 xc] 30)) w.heap.size (.slice (some ⟨w2.heap.size, 0, none⟩) l.length l.length) e := World.ownsRow.alloc hS _
          have g9 := IntSl.grownSet hS q s'
          have hq9 := IntSl.store hS q s'
          have HS9 := hide (World.ownsRow.alloc hq9 (.cells #[.int .i64 xp, .int .i64 xc] 30))
          have hb9 := hb.grown g9 hsz (fun k hk => by injection hk with hk; omega)
          have HB9 := hide (hb9.alloc hb9.size (.cells #[.int .i64 xp, .int .i64 xc] 30))
          have HE9 : Hid ((e.set q s').length = l.length ∧ flowEndsL l ord = flowGo l (f + xp) s' (ord.drop (k + 1)) (e.set q s')) := hide ⟨by rw [List.length_set]; exact HE.out.1, by rw [HE.out.2, HFS.out]⟩
          have hz : (0 : Int) ≤ k := by omega
          have hz2 : (k : Int) < ord.length := by omega
          have hz3 : (0 : Int) ≤ q := by omega
          have hz4 : (q : Int) < l.length := by omega
          clear ho hoe hqe hs' hs2 hS hSa g9 hq9 hb9
          go_wp2_with fail
          go_roundw
          case rel => exact ⟨k + 1, f + xp, s', e.set q s', hlt, by go_num, rfl, rfl, by omega, by omega, by omega, by omega, HE9, HS9.out, HB9.out⟩
          case measure => simp [intOf]; omega
        · have H4 : Hid (flowEndsL l ord = e) := hide (by rw [HE.out.2, List.drop_of_length_le (by rw [HOL.out]; omega)]; rfl)
          have hnl : ¬ (k : Int) < ord.length := by rw [HOL.out]; omega
          go_wp2_with fail
          refine bodyPost_ret (results_tmp rfl _ _ _) rfl ⟨_, rfl, by rw [H4.out]; exact hS, hb⟩
end Go.Proofs.YteloapholoechaaDoor

namespace Go.Proofs.YteloapholoechaaDoor
open Go.RowKit Go.ChangeShapes Go.WideShapes Go.ChangeAt Go.Deep

set_option maxHeartbeats 1000000 in
theorem implFlowEnd_any (A B : Option Addr) (c d : Nat) (l : List Dish) (ord : List Int) (w : World) (hA : DishesAt w A l) (hl : l.length ≤ 1048576) (hB : IntsAt w B ord) (hm : ord.length ≤ 1048576) :
    Calls Tryd.prog 15 #[.slice A l.length c, .slice B ord.length d] w fun e w' => e = .returned (.int .i64 (flowEndL l ord)) ∧ Below w.heap.size w w' := by
  cases hI : flowFit l ord with
  | false =>
    have HI := hide hI
    have H3 : Hid (flowEndL l ord = -1) := hide (by unfold flowEndL; rw [hI]; rfl)
    clear hI
    go_enter Tryd.func15, Tryd.ntmps15
    go_wp2_with fail
    refine (flowFits_any _ _ _ _ _ _ _ hA hl hB hm).mono ?_
    rintro e w1 ⟨rfl, hB1⟩
    rw [HI.out]
    go_wp2_with fail
    go_ret
    exact ⟨by rw [H3.out]; rfl, hB1⟩
  | true =>
    have HI := hide hI
    have H3 : Hid (flowEndL l ord = maxFrom 0 (flowEndsL l ord)) := hide (by unfold flowEndL; rw [hI]; rfl)
    have HQL := hide (flowEndsL_len l ord)
    obtain ⟨Q, hQ⟩ : ∃ Q, flowEndsL l ord = Q := ⟨_, rfl⟩
    have HQ := hide hQ
    rw [hQ] at H3 HQL
    clear hI hQ
    go_enter Tryd.func15, Tryd.ntmps15
    go_wp2_with fail
    refine (flowFits_any _ _ _ _ _ _ _ hA hl hB hm).mono ?_
    rintro e w1 ⟨rfl, hB1⟩
    rw [HI.out]
    go_wp2_with fail
    refine (implFlowEnds_any _ _ _ _ _ _ _ (hA.below hB1) hl (hB.below hB1) hm).mono ?_
    rintro e w2 ⟨v, rfl, hS, hB2⟩
    rw [HQ.out] at hS
    obtain ⟨AQ, cq, rfl, hI2, -⟩ := hS.form
    have hb2 := next hB1 hB2
    go_wp2_with fail
    refine (greatest_any _ _ _ _ hI2 (Nat.le_trans HQL.out hl)).mono ?_
    rintro e w3 ⟨rfl, rfl⟩
    go_wp2_with fail
    go_ret
    exact ⟨by rw [H3.out]; rfl, hb2⟩

set_option maxHeartbeats 1000000 in
theorem specFlowEnd_any (A B : Option Addr) (c d : Nat) (l : List Dish) (ord : List Int) (w : World) (hA : DishesAt w A l) (hl : l.length ≤ 1048576) (hB : IntsAt w B ord) (hm : ord.length ≤ 1048576) (hc : ord.length ≤ d) :
    Calls Tryd.prog 16 #[.slice A l.length c, .slice B ord.length d] w fun e w' => e = .returned (.int .i64 (flowEndL l ord)) ∧ Below w.heap.size w w' := by
  cases hD : dishesOk l with
  | false =>
    have HD := hide hD
    have H3 : Hid (flowEndL l ord = -1) := hide (by unfold flowEndL flowFit; rw [hD]; rfl)
    clear hD
    go_enter Tryd.func16, Tryd.ntmps16
    go_wp2_with fail
    refine (specDishesValid_any _ _ _ _ hA hl).mono ?_
    rintro e w1 ⟨rfl, hB1⟩
    rw [HD.out]
    go_wp2_with fail
    go_ret
    exact ⟨by rw [H3.out]; rfl, hB1⟩
  | true =>
    have HD := hide hD
    cases hO : orderOkL ord (l.length : Int) with
    | false =>
      have HO := hide hO
      have H3 : Hid (flowEndL l ord = -1) := hide (by unfold flowEndL flowFit; rw [hO]; simp)
      clear hD hO
      go_enter Tryd.func16, Tryd.ntmps16
      go_wp2_with fail
      refine (specDishesValid_any _ _ _ _ hA hl).mono ?_
      rintro e w1 ⟨rfl, hB1⟩
      rw [HD.out]
      go_wp2_with fail
      refine (specOrderOk_any _ _ _ _ _ (hB.below hB1) hm hc).mono ?_
      rintro e w2 ⟨rfl, hB2⟩
      have hb2 := next hB1 hB2
      rw [HO.out]
      go_wp2_with fail
      go_ret
      exact ⟨by rw [H3.out]; rfl, hb2⟩
    | true =>
      have HO := hide hO
      have H3 : Hid (flowEndL l ord = maxFrom 0 (flowEndsL l ord)) := hide (by unfold flowEndL flowFit; rw [hD, hO]; rfl)
      have HQL := hide (flowEndsL_len l ord)
      obtain ⟨Q, hQ⟩ : ∃ Q, flowEndsL l ord = Q := ⟨_, rfl⟩
      have HQ := hide hQ
      rw [hQ] at H3 HQL
      clear hD hO hQ
      go_enter Tryd.func16, Tryd.ntmps16
      go_wp2_with fail
      refine (specDishesValid_any _ _ _ _ hA hl).mono ?_
      rintro e w1 ⟨rfl, hB1⟩
      rw [HD.out]
      go_wp2_with fail
      refine (specOrderOk_any _ _ _ _ _ (hB.below hB1) hm hc).mono ?_
      rintro e w2 ⟨rfl, hB2⟩
      have hb2 := next hB1 hB2
      rw [HO.out]
      go_wp2_with fail
      refine (specFlowEnds_any _ _ _ _ _ _ _ (hA.below hb2) hl (hB.below hb2) hm hc).mono ?_
      rintro e w3 ⟨v, rfl, hS, hB3⟩
      rw [HQ.out] at hS
      obtain ⟨AQ, cq, rfl, hI3, -⟩ := hS.form
      have hb3 := next hb2 hB3
      have hq2 := Nat.le_trans HQL.out hl
      go_wp2_with fail
      go_loopw [5, 7] (fun ev i wr => ∃ (k : Nat) (e : Int), k ≤ Q.length ∧ i = .int .i64 k ∧ ev = .int .i64 e ∧ Hid (maxFrom 0 Q = maxFrom e (Q.drop k)) ∧ w3 = wr) (fun _ i _ => Q.length - (intOf i).toNat)
      case atStart => exact ⟨0, 0, Nat.zero_le _, rfl, rfl, hide rfl, rfl⟩
      case round =>
        obtain ⟨k, e, hk, rfl, rfl, HG, rfl⟩ := hrel
        by_cases hlt : k < Q.length
        · obtain ⟨b, off, rfl, hbl, hc1⟩ := hI3 k Q[k] (List.getElem?_eq_getElem hlt)
          have HDD : Hid (Q.drop k = Q[k] :: Q.drop (k + 1)) := hide (List.drop_eq_getElem_cons hlt)
          generalize Q[k] = p at *
          have HG2 : Hid (maxFrom 0 Q = maxFrom (if e < p then p else e) (Q.drop (k + 1))) := hide (by rw [HG.out, HDD.out, maxFrom])
          have hz : (0 : Int) ≤ k := by omega
          have hz2 : (k : Int) < Q.length := by omega
          go_wp2_with fail
          go_roundw
          case rel => exact ⟨k + 1, _, hlt, by go_num, rfl, HG2, trivial⟩
          case measure => simp [intOf]; omega
        · have H4 : Hid (flowEndL l ord = e) := hide (by rw [H3.out, HG.out, List.drop_of_length_le (by omega), maxFrom])
          go_wp2_with fail
          go_ret
          exact ⟨by rw [H4.out]; rfl, hb3⟩
end Go.Proofs.YteloapholoechaaDoor
