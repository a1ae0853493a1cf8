/- DrawPays: the draw of debts and payments; the drawn argument of PaysOk.
   Conditions: the bounds in each statement. -/
import Derived.Test.YtgagfaajilbmmaaDoorDrawOwed
import Derived.Test.YtgagfaajilbmmaaDoorFast
namespace Go.Proofs.YtgagfaajilbmmaaDoor
open Go.RowKit Go.ChangeShapes Go.WideShapes Go.ChangeAt Go.Deep

theorem pay_more {w : World} {lo g n c : Nat} {p : Pay} {r : List Pay} (h : PaySl w lo (.slice (some ⟨g, 0, none⟩) n c) (p :: r)) (d : Int) : PaySl (w.setCell ⟨g, 2, none⟩ (.int .i64 d)) lo (.slice (some ⟨g, 0, none⟩) n c) (⟨p.frm, p.tow, d⟩ :: r) ∧ w.grownBy (w.setCell ⟨g, 2, none⟩ (.int .i64 d)) (some g) := by
  obtain ⟨A, c', e, -, -⟩ := h.form
  injection e with e1 e2 e3
  subst e2
  have := World.ownsRow.stored h 2 (.int .i64 d)
  refine ⟨?_, this.2⟩
  have h1 := this.1
  rw [payCells_cons] at h1
  unfold PaySl
  rw [payCells_cons]
  exact h1

theorem paySl_drew {w : World} {lo : Nat} {v : Value} {ls : List Pay} (h : PaySl w lo v ls) : PaySl w.drew lo v ls := h

def DrewPays (w : World) (b : Nat) (e : Ending) (w' : World) : Prop := ∃ (xs : List Int) (g c : Nat) (ps : List Pay) (A : Option Addr) (d : Nat), e = .returned (.tuple #[.slice (some ⟨g, 0, none⟩) xs.length c, .slice A ps.length d]) ∧ IntsAt w' (some ⟨g, 0, none⟩) xs ∧ PaysAt w' A ps ∧ xs.length ≤ 8 ∧ ps.length ≤ 1048576 ∧ w.grownBy w' (some b)

set_option maxRecDepth 100000 in
set_option maxHeartbeats 8000000 in
theorem l20Pays_any (b n : Nat) (w : World) (hR : Rd w b n) (hn : n ≤ 70000) :
    Calls Tryd.prog 81 #[.pointer (some ⟨b, 0, none⟩)] w (DrewPays w b) := by
  have hblt := hR.lt
  go_enter Tryd.func81, Tryd.ntmps81
  go_wp2_with fail
  refine (l20Owed_any b n 14 _ hR (by omega) (by omega)).mono ?_
  rintro e w1 ⟨ls, g, c, rfl, hS1, hl8, hR1, hg1, hX⟩
  have hl' : ls.length ≤ 1048576 := by omega
  have hgw := (World.ownsRow.lt hS1 g rfl).1
  have hz1 := hg1.size
  have HS1 := hide hS1
  have HG1 := hide hg1
  have HR1 := hide hR1
  obtain ⟨m, hm⟩ : ∃ m, ls.length = m := ⟨_, rfl⟩
  have hm8 : m ≤ 8 := by omega
  have HM := hide hm
  have HSF := fun W h => specSettleFast_any ⟨g, 0, none⟩ c ls W h hl'
  have HOV := fun W h => specOwedValid_any (some ⟨g, 0, none⟩) c ls W h hl'
  rw [hm] at HS1 HSF HOV ⊢
  have HSFh := hide HSF
  have HOVh := hide HOV
  clear hS1 hg1 hR1 hX HSF HOV hm hR
  go_wp2_with fail
  refine (HSFh.out _ (IntSl.ints HS1.out)).mono ?_
  rintro e w2 ⟨v, rfl, hP2, hB2⟩
  have HO2 := hide (IntSl.below HS1.out hB2)
  have HP2 := hide (ownsRow_mono hP2 hz1)
  have HG2 := hide (grown_belowI HG1.out hB2)
  have HR2 := hide (rd_belowI HR1.out hB2)
  have hz2 := HG2.out.size
  have HPL : Hid ((settleFastL ls).length ≤ 1048576) := hide (settleFastL_len _)
  clear hP2 hB2 HSFh HS1 HG1 HR1
  go_upto_region 3 with fail
  go_cut [18] (fun v' wx => ∃ β : Bool, v' = .bool β ∧ Hid (β = true → owedOk ls = true) ∧ IntSl wx w.heap.size (.slice (some ⟨g, 0, none⟩) m c) ls ∧ PaySl wx w.heap.size v (settleFastL ls) ∧ Rd wx b (n + 31) ∧ w.grownBy wx (some b))
  case first =>
    go_wp2_with fail
    refine (pick_any b _ 3 _ HR2.out (by omega) (by omega)).mono ?_
    rintro e w3 ⟨q3, rfl, hq30, hq31, hR3, hg3⟩
    have HO3 := hide (row_pickI HO2.out (by omega) hg3)
    have HP3 := hide (row_pickI HP2.out (by omega) hg3)
    have HG3 := hide (HG2.out.trans hg3)
    have HR3 := hide hR3
    clear hg3 hR3 HO2 HP2 HG2 HR2
    by_cases hq : q3 = 0
    · have hqb : (q3 == 0) = true := by rw [hq]; rfl
      clear hq
      go_wp2_with fail
      refine (HOVh.out _ (IntSl.ints HO3.out)).mono ?_
      rintro e w4 ⟨rfl, hB4⟩
      have HO4 := hide (IntSl.below HO3.out hB4)
      have HP4 := hide (PaySl.below HP3.out hB4)
      have HG4 := hide (grown_belowI HG3.out hB4)
      have HR4 := hide (rd_belowI HR3.out hB4)
      go_wp2_with fail
      go_meet
      exact ⟨owedOk ls, rfl, hide id, HO4.out, HP4.out, HR4.out, HG4.out⟩
    · have hqb : (q3 == 0) = false := beq_false_of_ne hq
      go_wp2_with fail
      go_meet
      exact ⟨false, rfl, hide (fun h => by cases h), HO3.out, HP3.out, HR3.out, HG3.out⟩
  case rest =>
  obtain ⟨β, rfl, HB, hO3, hP3, hR3, hg3⟩ := hcut
  have HO3 := hide hO3
  have HP3 := hide hP3
  have HG3 := hide hg3
  have HR3 := hide hR3
  have hz3 := hg3.size
  clear hO3 hP3 hR3 hg3 HO2 HP2 HG2 HR2 HOVh
  go_upto_if 18 with (fail)
  go_cut [5] (fun v' wx => ∃ (ps : List Pay), PaySl wx w.heap.size v' ps ∧ ps.length ≤ 1048576 ∧ IntSl wx w.heap.size (.slice (some ⟨g, 0, none⟩) m c) ls ∧ Rd wx b (n + 31) ∧ w.grownBy wx (some b))
  case first =>
    cases β with
    | false =>
      go_wp2_with fail
      go_meet
      exact ⟨settleFastL ls, HP3.out, HPL.out, HO3.out, HR3.out, HG3.out⟩
    | true =>
      have hok := HB.out rfl
      have h7 := owedOk_len hok
      have hm7 : m ≤ 7 := by have := HM.out; omega
      have HOP : Hid (PaySl (wc.alloc (.cells #[] 65)) w.heap.size (.slice (some ⟨wc.heap.size, 0, none⟩) 0 0) []) := hide (World.ownsRow_lit wc #[] 0 hz3 (by unfold maxLen; omega) rfl)
      have HOI : Hid (IntSl ((wc.alloc (.cells #[] 65)).alloc (.cells #[] 3)) wc.heap.size (.slice (some ⟨(wc.alloc (.cells #[] 65)).heap.size, 0, none⟩) 0 0) []) := hide (World.ownsRow_lit (wc.alloc (.cells #[] 65)) #[] 0 (by simp) (by unfold maxLen; omega) rfl)
      have HPA := hide (World.ownsRow.alloc HOP.out (.cells #[] 3))
      have HOA := hide (IntSl.below HO3.out (w' := (wc.alloc (.cells #[] 65)).alloc (.cells #[] 3)) (by go_grown))
      have HGA : Hid (w.grownBy ((wc.alloc (.cells #[] 65)).alloc (.cells #[] 3)) (some b)) := hide ((HG3.out.trans (World.grownBy_alloc _ _ _)).trans (World.grownBy_alloc _ _ _))
      have HRA := hide (rd_belowI HR3.out (w' := (wc.alloc (.cells #[] 65)).alloc (.cells #[] 3)) (by go_grown))
      have hgo := (World.ownsRow.lt HO3.out g rfl).2
      have hbc := HR3.out.lt
      have hsA : (wc.alloc (.cells #[] 65)).heap.size = wc.heap.size + 1 := by simp
      have HSA := hide hsA
      rw [hsA] at HOI
      clear hok hsA
      go_wp2_with (at_builtin; refine wpList_spread_int rfl _ _ rfl wc.heap.size (.slice (some ⟨wc.heap.size + 1, 0, none⟩) 0 0) [] rfl HOI.out (by simp) ⟨g, 0, none⟩ m c ls HM.out rfl (IntSl.ints HOA.out) (by simp; omega) (by simp; omega) ?_; intro gL cL w5 hown hgrow; rw [show ([] : List Int).length + m = m from by simp]; have HL5 : Hid (IntSl w5 wc.heap.size (.slice (some ⟨gL, 0, none⟩) m cL) ls) := hide (by simpa using hown); have HO5 := hide (IntSl.row HOA.out hgrow (.inr (fun e => by have e : some g = some (wc.heap.size + 1) := e; injection e with e; omega))); have HP5 := hide (PaySl.row HPA.out hgrow (rows_apart HPA.out HOI.out (by decide))); have HR5 := hide (rd_grownI HRA.out hgrow (fun j hj => by have hj : some (wc.heap.size + 1) = some j := hj; injection hj with hj; omega)); have HG5 := hide (grown_rowI HGA.out hgrow (fun j hj => by have hj : some (wc.heap.size + 1) = some j := hj; injection hj with hj; omega)); clear hown hgrow)
      go_loopw [5, 7] (fun v i wr => ∃ (k : Nat) (ps : List Pay) (left : List Int), k ≤ m ∧ ps.length ≤ k ∧ i = .int .i64 k ∧ PaySl wr w.heap.size v ps ∧ IntSl wr wc.heap.size (.slice (some ⟨gL, 0, none⟩) m cL) left ∧ IntSl wr w.heap.size (.slice (some ⟨g, 0, none⟩) m c) ls ∧ Rd wr b (n + 31) ∧ w.grownBy wr (some b)) (fun _ i _ => m - (intOf i).toNat)
      case atStart => exact ⟨0, [], ls, Nat.zero_le _, Nat.zero_le _, rfl, HP5.out, HL5.out, HO5.out, HR5.out, HG5.out⟩
      case round =>
        clear HP5 HL5 HO5 HR5 HG5 HOP HOI HPA HOA HGA HRA HP3 HO3 HR3 HG3
        obtain ⟨k, ps, left, hk, hps, rfl, hP, hL, hO, hRr, hGr⟩ := hrel
        have hsz := hGr.size
        have HP0 := hide hP
        have HL0 := hide hL
        have HO0 := hide hO
        have HR0 := hide hRr
        have HG0 := hide hGr
        have HLEN : Hid (left.length = m) := hide (by
          obtain ⟨A', c', e, -⟩ := hL.form
          injection e with _ e _
          exact e.symm)
        by_cases hlt : (k : Int) + 1 < m
        · have hxk := List.getElem?_eq_getElem (show k < left.length by rw [HLEN.out]; omega)
          have hyk := List.getElem?_eq_getElem (show k + 1 < left.length by rw [HLEN.out]; omega)
          obtain ⟨x, hx⟩ : ∃ x, left[k]'(by rw [HLEN.out]; omega) = x := ⟨_, rfl⟩
          obtain ⟨y, hy⟩ : ∃ y, left[k + 1]'(by rw [HLEN.out]; omega) = y := ⟨_, rfl⟩
          rw [hx] at hxk
          rw [hy] at hyk
          have hz : (0 : Int) ≤ k := by omega
          have hz2 : (k : Int) < m := by omega
          have hz3k : (0 : Int) ≤ (k : Int) + 1 := by omega
          have hwk : IntKind.i64.wrap ((k : Int) + 1) = (k : Int) + 1 := IntWalk.i64_in _ (by omega)
          have htk : ((k : Int) + 1).toNat = k + 1 := by omega
          obtain ⟨sm, hsm⟩ : ∃ sm, IntKind.i64.wrap (y + x) = sm := ⟨_, rfl⟩
          have HAP1 := hide (rows_apart hL hP (by decide))
          have HAP2 := hide (rows_apart hO hP (by decide))
          have HLT := hide (World.ownsRow.lt hP)
          clear hx hy hP hL hO hRr hGr
          rcases Int.lt_trichotomy x 0 with hx0 | hx0 | hx0
          · have hx1 : ¬ 0 < x := by omega
            obtain ⟨nx, hnx⟩ : ∃ nx, IntKind.i64.wrap (-x) = nx := ⟨_, rfl⟩
            have hcx0 := IntSl.cellAt HL0.out hxk
            go_wp2_with (at_builtin; refine wpList_push_pay rfl _ _ rfl w.heap.size u5 ps rfl (World.ownsRow.alloc HP0.out _) wr.heap.size ⟨(k : Int), (k : Int) + 1, nx⟩ rfl (heap_alloc_new wr _) (by omega) (by simp; omega) ?_; intro gP cP w6 hown hgrow; have hgp := hgrow; have HL6 := hide (IntSl.row (World.ownsRow.alloc HL0.out (.cells #[.int .i64 ((k : Int)), .int .i64 ((k : Int) + 1), .int .i64 nx] 65)) hgrow HAP1.out); have HO6 := hide (IntSl.row (World.ownsRow.alloc HO0.out (.cells #[.int .i64 ((k : Int)), .int .i64 ((k : Int) + 1), .int .i64 nx] 65)) hgrow HAP2.out); have HP6 := hide hown; have HR6 := hide (rd_grownI (HR0.out.kept (fun j hj => heap_alloc_old wr _ (by have := HR0.out.lt; omega))) hgrow (fun j hj => by have := (HLT.out j hj).1; omega)); have HG6 := hide (grown_rowI (HG0.out.trans (World.grownBy_alloc wr _ _)) hgrow (fun j hj => (HLT.out j hj).1)); have hcx := IntSl.cellAt HL6.out hxk; have hcy := IntSl.cellAt HL6.out hyk; have hfy := IntSl.frozenAt HL6.out (k + 1); clear hgp hown hgrow)
            have HLS := hide (IntSl.store HL6.out (k + 1) sm)
            have hgs := IntSl.grownSet HL6.out (k + 1) sm
            have hgl := World.ownsRow.lt HL6.out gL rfl
            have hgl0 := hgl.1
            have HPS := hide (PaySl.row HP6.out hgs (rows_apart HP6.out HL6.out (by decide)))
            have HOS := hide (IntSl.row HO6.out hgs (.inr (fun e => by have e : some g = some gL := e; injection e with e; omega)))
            have HRS := hide (rd_grownI HR6.out hgs (fun j hj => by injection hj with hj; omega))
            have HGS := hide (grown_rowI HG6.out hgs (fun j hj => by injection hj with hj; omega))
            clear hgs hgl
            refine still_tail_drew 14 (by kernel_rfl) (by kernel_rfl) ?_
            simp only [List.take_succ_cons, List.take_zero, List.drop_succ_cons, List.drop_zero]
            repeat still_step
            refine wpStill_nil ?_
            go_wp2_with fail
            go_roundw
            case rel => exact ⟨k + 1, ps ++ [⟨(k : Int), (k : Int) + 1, nx⟩], left.set (k + 1) sm, by omega, by simp; omega, by go_num, paySl_drew HPS.out, IntSl.drew HLS.out, IntSl.drew HOS.out, HRS.out, ⟨HGS.out.os, HGS.out.tape, HGS.out.output, HGS.out.size, HGS.out.block⟩⟩
            case measure => simp [intOf]; omega
          · have hx1 : ¬ 0 < x := by omega
            have hx2 : ¬ x < 0 := by omega
            have hcx := IntSl.cellAt HL0.out hxk
            have hcy := IntSl.cellAt HL0.out hyk
            have hfy := IntSl.frozenAt HL0.out (k + 1)
            clear hx0
            go_wp2_with fail
            have HLS := hide (IntSl.store HL0.out (k + 1) sm)
            have hgs := IntSl.grownSet HL0.out (k + 1) sm
            have hgl := World.ownsRow.lt HL0.out gL rfl
            have hgl0 := hgl.1
            have HPS := hide (PaySl.row HP0.out hgs (rows_apart HP0.out HL0.out (by decide)))
            have HOS := hide (IntSl.row HO0.out hgs (.inr (fun e => by have e : some g = some gL := e; injection e with e; omega)))
            have HRS := hide (rd_grownI HR0.out hgs (fun j hj => by injection hj with hj; omega))
            have HGS := hide (grown_rowI HG0.out hgs (fun j hj => by injection hj with hj; omega))
            clear hgs hgl
            refine still_tail_drew 14 (by kernel_rfl) (by kernel_rfl) ?_
            simp only [List.take_succ_cons, List.take_zero, List.drop_succ_cons, List.drop_zero]
            repeat still_step
            refine wpStill_nil ?_
            go_wp2_with fail
            go_roundw
            case rel => exact ⟨k + 1, ps, left.set (k + 1) sm, by omega, by omega, by go_num, paySl_drew HPS.out, IntSl.drew HLS.out, IntSl.drew HOS.out, HRS.out, ⟨HGS.out.os, HGS.out.tape, HGS.out.output, HGS.out.size, HGS.out.block⟩⟩
            case measure => simp [intOf]; omega
          · have hx1 : ¬ x < 0 := by omega
            have hcx0 := IntSl.cellAt HL0.out hxk
            go_wp2_with (at_builtin; refine wpList_push_pay rfl _ _ rfl w.heap.size u5 ps rfl (World.ownsRow.alloc HP0.out _) wr.heap.size ⟨(k : Int) + 1, (k : Int), x⟩ rfl (heap_alloc_new wr _) (by omega) (by simp; omega) ?_; intro gP cP w6 hown hgrow; have hgp := hgrow; have HL6 := hide (IntSl.row (World.ownsRow.alloc HL0.out (.cells #[.int .i64 ((k : Int) + 1), .int .i64 ((k : Int)), .int .i64 x] 65)) hgrow HAP1.out); have HO6 := hide (IntSl.row (World.ownsRow.alloc HO0.out (.cells #[.int .i64 ((k : Int) + 1), .int .i64 ((k : Int)), .int .i64 x] 65)) hgrow HAP2.out); have HP6 := hide hown; have HR6 := hide (rd_grownI (HR0.out.kept (fun j hj => heap_alloc_old wr _ (by have := HR0.out.lt; omega))) hgrow (fun j hj => by have := (HLT.out j hj).1; omega)); have HG6 := hide (grown_rowI (HG0.out.trans (World.grownBy_alloc wr _ _)) hgrow (fun j hj => (HLT.out j hj).1)); have hcx := IntSl.cellAt HL6.out hxk; have hcy := IntSl.cellAt HL6.out hyk; have hfy := IntSl.frozenAt HL6.out (k + 1); clear hgp hown hgrow)
            have HLS := hide (IntSl.store HL6.out (k + 1) sm)
            have hgs := IntSl.grownSet HL6.out (k + 1) sm
            have hgl := World.ownsRow.lt HL6.out gL rfl
            have hgl0 := hgl.1
            have HPS := hide (PaySl.row HP6.out hgs (rows_apart HP6.out HL6.out (by decide)))
            have HOS := hide (IntSl.row HO6.out hgs (.inr (fun e => by have e : some g = some gL := e; injection e with e; omega)))
            have HRS := hide (rd_grownI HR6.out hgs (fun j hj => by injection hj with hj; omega))
            have HGS := hide (grown_rowI HG6.out hgs (fun j hj => by injection hj with hj; omega))
            clear hgs hgl
            refine still_tail_drew 14 (by kernel_rfl) (by kernel_rfl) ?_
            simp only [List.take_succ_cons, List.take_zero, List.drop_succ_cons, List.drop_zero]
            repeat still_step
            refine wpStill_nil ?_
            go_wp2_with fail
            go_roundw
            case rel => exact ⟨k + 1, ps ++ [⟨(k : Int) + 1, (k : Int), x⟩], left.set (k + 1) sm, by omega, by simp; omega, by go_num, paySl_drew HPS.out, IntSl.drew HLS.out, IntSl.drew HOS.out, HRS.out, ⟨HGS.out.os, HGS.out.tape, HGS.out.output, HGS.out.size, HGS.out.block⟩⟩
            case measure => simp [intOf]; omega
        · go_wp2_with fail
          go_meet
          exact ⟨ps, HP0.out, by omega, HO0.out, HR0.out, HG0.out⟩
  case rest =>
  obtain ⟨ps, hP4, hps, hO4, hR4, hg4⟩ := hcut
  have HO4 := hide hO4
  have HP4 := hide hP4
  have HG4 := hide hg4
  have HR4 := hide hR4
  have hz4 := hg4.size
  clear hO4 hP4 hR4 hg4 HO3 HP3 HG3 HR3 HPL
  go_wp2_with fail
  refine (odd_any b _ 9 _ HR4.out (by omega) (by omega)).mono ?_
  rintro e w5 ⟨γ, rfl, hR5, hg5⟩
  have HO5 := hide (row_pickI HO4.out (by omega) hg5)
  have HP5 := hide (row_pickI HP4.out (by omega) hg5)
  have HG5 := hide (HG4.out.trans hg5)
  clear hg5 hR5 HO4 HP4 HG4 HR4
  obtain ⟨A5, c5, hv5, hA5, -⟩ := PaySl.form HP5.out
  subst hv5
  have HA5 := hide hA5
  clear hA5
  match ps, hps, HP5, HA5 with
  | [], hps, HP5, HA5 =>
    cases γ with
    | false =>
      go_wp2_with fail
      refine bodyPost_ret (results_tmp2 rfl _ _ _) rfl ⟨ls, g, c, [], A5, c5, by rw [HM.out]; rfl, IntSl.ints HO5.out, HA5.out, hl8, hps, HG5.out⟩
    | true =>
      go_wp2_with fail
      refine bodyPost_ret (results_tmp2 rfl _ _ _) rfl ⟨ls, g, c, [], A5, c5, by rw [HM.out]; rfl, IntSl.ints HO5.out, HA5.out, hl8, hps, HG5.out⟩
  | p :: r, hps, HP5, HA5 =>
    obtain ⟨bp, op, e, hbp, hp1, hp2, hp3⟩ := HA5.out 0 p rfl
    subst e
    obtain ⟨k5, hk5⟩ : ∃ k5 : Nat, (p :: r).length = k5 + 1 := ⟨r.length, by simp⟩
    have HK5 := hide hk5
    have hk0 : (0 : Int) < ((k5 + 1 : Nat) : Int) := by omega
    obtain ⟨gp, cp, eP, -, -⟩ := World.ownsRow.form HP5.out (by simp)
    injection eP with e1 e2 e3
    injection e1 with e1
    injection e1 with e1 e4
    subst e1 e4 e3
    simp only [Nat.zero_add, Nat.zero_mul] at hp3
    cases γ with
    | false =>
      go_wp2_with fail
      refine bodyPost_ret (results_tmp2 rfl _ _ _) rfl ⟨ls, g, c, p :: r, _, _, by rw [HM.out, HK5.out]; rfl, IntSl.ints HO5.out, HA5.out, hl8, hps, HG5.out⟩
    | true =>
      obtain ⟨sm, hsm⟩ : ∃ sm, IntKind.i64.wrap (p.sum + 1) = sm := ⟨_, rfl⟩
      have hst := pay_more HP5.out sm
      have hfz := World.ownsRow.frozenAt HP5.out 2
      have HPS := hide hst.1
      have HGS := hide (grown_rowI HG5.out hst.2 (fun j hj => by have := (World.ownsRow.lt HP5.out j hj).1; exact this))
      have HOS := hide (IntSl.row HO5.out hst.2 (rows_apart HO5.out HP5.out (by decide)))
      clear hst hk5 hp1 hp2
      go_wp2_with fail
      refine bodyPost_ret (results_tmp2 rfl _ _ _) rfl ⟨ls, g, c, ⟨p.frm, p.tow, sm⟩ :: r, _, _, by rw [HM.out]; rfl, IntSl.ints HOS.out, PaySl.pays HPS.out, hl8, by simpa using hps, HGS.out⟩

def DrawnPays (w : World) (e : Ending) (w' : World) : Prop := ∃ (xs : List Int) (g c : Nat) (ps : List Pay) (A : Option Addr) (d : Nat), e = .returned (.tuple #[.slice (some ⟨g, 0, none⟩) xs.length c, .slice A ps.length d]) ∧ IntsAt w' (some ⟨g, 0, none⟩) xs ∧ PaysAt w' A ps ∧ xs.length ≤ 8 ∧ ps.length ≤ 1048576 ∧ Below w.heap.size w w'

set_option maxHeartbeats 1000000 in
theorem drawPaysOk_any (A : Option Addr) (c m : Nat) (w : World) (hB : BytesIn w A m) (hm : m ≤ 9223372036854775807) (hc : m ≤ c) (hc2 : c ≤ 9223372036854775807) :
    Calls Tryd.prog 35 #[.slice A m c] w (DrawnPays w) := by
  go_enter Tryd.func35, Tryd.ntmps35
  go_wp2_with fail
  refine (open_any A c m w hB hm hc hc2).mono ?_
  rintro e w1 ⟨rfl, hR1, hb1⟩
  have hz1 := hb1.size
  go_wp2_with fail
  refine (l20Pays_any w.heap.size 0 _ hR1 (by omega)).mono ?_
  rintro e w2 ⟨xs, g, c2, ps, A2, d2, rfl, hI, hP, hl, hpl, hg2⟩
  have hb2 : Below w.heap.size w w2 := hb1.grown hg2 hz1 (fun j hj => by injection hj with hj; omega)
  have HI := hide hI
  have HP := hide hP
  clear hI hP hg2
  go_wp2_with fail
  refine bodyPost_ret (results_tmp2 rfl _ _ _) rfl ⟨xs, g, c2, ps, A2, d2, rfl, HI.out, HP.out, hl, hpl, hb2⟩
end Go.Proofs.YtgagfaajilbmmaaDoor
