/- SettleFast: contracts of the program and of the reference model; slices.Min, Max and Index at lists of numbers.
   Conditions: lists have at most 1048576 elements. -/
import Derived.Test.YtgagfaajilbmmaaDoorFastMath
namespace Go.Proofs.YtgagfaajilbmmaaDoor
open Go.RowKit Go.ChangeShapes Go.WideShapes Go.ChangeAt Go.Deep

def lenOf : Value → Nat
  | .slice _ n _ => n
  | _ => 0

theorem rows_apart {w : World} {lo lo' : Nat} {e e' : TypeId} {size size' : Nat} {v v' : Value} {n n' : Nat} {xs xs' : List Value} (h : w.ownsRow lo e size v n xs) (h' : w.ownsRow lo' e' size' v' n' xs') (he : e ≠ e') : v.ownBlock = none ∨ v.ownBlock ≠ v'.ownBlock := by
  rcases h.2 with ⟨rfl, _⟩ | ⟨g, cap, cur, rfl, _, hg, _⟩
  · exact .inl rfl
  · rcases h'.2 with ⟨rfl, _⟩ | ⟨g', cap', cur', rfl, _, hg', _⟩
    · exact .inr (fun e => by cases e)
    · refine .inr (fun e => ?_)
      have e : some g = some g' := e
      injection e with e
      subst e
      rw [hg] at hg'
      injection hg' with hg'
      injection hg' with _ e2 _
      exact he e2

set_option maxHeartbeats 2000000 in
theorem implSettleFast_any (A : Addr) (c : Nat) (xs : List Int) (w : World) (hA : IntsAt w (some A) xs) (hl : xs.length ≤ 1048576) :
    Calls Tryd.prog 45 #[.slice (some A) xs.length c] w fun e w' => ∃ v, e = .returned v ∧ PaySl w' w.heap.size v (settleFastL xs) ∧ Below w.heap.size w w' := by
  cases hI : owedOk xs with
  | false =>
    have HI := hide hI
    have HR : Hid (settleFastL xs = []) := hide (by unfold settleFastL; rw [hI]; rfl)
    clear hI
    go_enter Tryd.func45, Tryd.ntmps45
    go_wp2_with fail
    refine (implOwedValid_any _ _ _ _ hA hl).mono ?_
    rintro e w1 ⟨rfl, hB1⟩
    rw [HI.out]
    go_wp2_with fail
    refine bodyPost_ret (results_tmp rfl _ _ _) rfl ⟨.slice none 0 0, rfl, by rw [HR.out]; exact World.ownsRow_nil _ _ _ _, hB1⟩
  | true =>
    have HI := hide hI
    have h7 := owedOk_len hI
    have HF := hide (FInv.start hI)
    have HR : Hid (settleFastL xs = [] ++ fastGo xs.length xs) := hide (by unfold settleFastL; rw [hI]; rfl)
    clear hI
    go_enter Tryd.func45, Tryd.ntmps45
    go_wp2_with fail
    refine (implOwedValid_any _ _ _ _ hA hl).mono ?_
    rintro e w1 ⟨rfl, hB1⟩
    rw [HI.out]
    have hsz1 := hB1.size
    go_wp2_with fail
    refine (clone_any _ _ _ _ (hA.below hB1) hl).mono ?_
    rintro e w2 ⟨C, cc, rfl, hS, hB2⟩
    have hb2 := next hB1 hB2
    have HS := hide (hS.mono hsz1)
    clear hS hA hB1 hB2
    go_wp2_with fail
    go_loopw [3] (fun lv wr => ∃ (m : Nat) (ps : List Pay) (ys : List Int), ps.length + m = xs.length ∧ Hid (nz ys ≤ m) ∧ Hid (FInv xs.length ys) ∧ Hid (settleFastL xs = ps ++ fastGo m ys) ∧ PaySl wr w.heap.size lv ps ∧ IntSl wr w.heap.size (.slice (some C) xs.length cc) ys ∧ Below w.heap.size w wr) (fun lv _ => xs.length - lenOf lv)
    case atStart => exact ⟨xs.length, [], xs, by simp, hide (nz_len xs), HF, HR, World.ownsRow_nil _ _ _ _, HS.out, hb2⟩
    case round =>
      clear HS hb2 HF HR
      obtain ⟨m, ps, ys, hm, HZ, HF, HG, hP, hS, hb⟩ := hrel
      have hsz := hb.size
      have hylen := HF.out.len
      have HLV : Hid (lenOf u3 = ps.length) := hide (by obtain ⟨_, _, e, _⟩ := hP.form; rw [e]; rfl)
      have hO := openSet_any (some C) cc ys wr hS.ints (by rw [hylen]; exact h7)
      rw [hylen] at hO
      cases hz : ys.all (· == 0) with
      | true =>
        have H0 : openS ys = 0 := by have := openS_zero ys; rw [hz] at this; simpa using this
        rw [H0] at hO
        have H3 : Hid (settleFastL xs = ps) := hide (by rw [HG.out, fastGo_zero hz, List.append_nil])
        clear hylen hz H0
        go_wp2_with fail
        refine hO.mono ?_
        rintro e w3 ⟨rfl, rfl⟩
        go_wp2_with fail
        refine bodyPost_ret (results_tmp rfl _ _ _) rfl ⟨_, rfl, by rw [H3.out]; exact hP, hb⟩
      | false =>
        have H0 : (openS ys != 0) = true := by have := openS_zero ys; rw [hz] at this; simp only [bne, this]; rfl
        have hnz := nz_pos hz
        obtain ⟨m', rfl⟩ : ∃ m', m = m' + 1 := ⟨m - 1, by have := HZ.out; omega⟩
        obtain ⟨f, t, s, hst⟩ := fast_step HF.out hz
        have hnx := hst.next HF.out
        have H3 : Hid (settleFastL xs = (ps ++ [⟨f, t, s⟩]) ++ fastGo m' (carry ⟨f, t, s⟩ ys)) := hide (by rw [HG.out, fastGo_step hz, hst.eq]; simp)
        have HZ2 : Hid (nz (carry ⟨f, t, s⟩ ys) ≤ m') := hide (by have := HZ.out; have := hnx.2; omega)
        have HF2 := hide hnx.1
        have HOK := hide hst.ok
        have h0y : 0 < ys.length := by rw [hylen]; have := hst.f_lt; omega
        have hMn := slicesMin_any (some C) cc ys wr hS.ints (by rw [hylen]; exact hl) h0y
        have hMx := slicesMax_any (some C) cc ys wr hS.ints (by rw [hylen]; exact hl) h0y
        have hI1 := slicesIndex_any (some C) cc ys (minL ys) wr hS.ints (by rw [hylen]; exact hl) (hide (minL_mem h0y))
        have hI2 := slicesIndex_any (some C) cc ys (maxL ys) wr hS.ints (by rw [hylen]; exact hl) (hide (maxL_mem h0y))
        rw [hylen] at hMn hMx hI1 hI2
        have heq := hst.eq
        unfold fastStep at heq
        injection heq with q1 q2 q3
        rw [q1] at hI1
        rw [q2] at hI2
        have hsr := hst.sum_range
        obtain ⟨hs1, hs2, -, -, -⟩ := hsr
        have hlow := hst.low
        have hneg := hst.neg
        have hfn := hst.f_lt
        have htn := hst.t_lt
        obtain ⟨g, cap, e, hg0, hg1⟩ := hS.own h0y
        injection e with e1 e2 e3
        clear e2
        injection e1 with e1
        subst e1 e3
        generalize openS ys = ov at *
        generalize minL ys = mn at *
        generalize maxL ys = mx at *
        have hw1 : IntKind.i64.wrap (-mn) = -mn := IntWalk.i64_in _ (by omega)
        have HI1 := hide hI1
        have HI2 := hide hI2
        have HMn := hide hMn
        have HMx := hide hMx
        have HYL := hide hylen
        clear q1 q2 hz hnz hst hnx h0y hI1 hI2 hMn hMx hylen
        go_wp2_with fail
        refine hO.mono ?_
        rintro e w3 ⟨rfl, rfl⟩
        clear hO
        go_wp2_with fail
        refine HMn.out.mono ?_
        rintro e w3 ⟨rfl, rfl⟩
        go_wp2_with fail
        refine HMx.out.mono ?_
        rintro e w3 ⟨rfl, rfl⟩
        go_wp2_with fail
        refine HI1.out.mono ?_
        rintro e w3 ⟨rfl, rfl⟩
        go_wp2_with fail
        refine HI2.out.mono ?_
        rintro e w3 ⟨rfl, rfl⟩
        go_wp2_with fail
        have hSa : IntSl (wr.alloc (.cells #[.int .i64 f, .int .i64 t, .int .i64 s] 65)) w.heap.size (.slice (some ⟨g, 0, none⟩) xs.length cc) ys := World.ownsRow.alloc hS _
        refine (carryOut_any w.heap.size g _ _ ys ⟨f, t, s⟩ _ HYL.out HOK hSa).mono ?_
        rintro e w4 ⟨rfl, hS4, hg4⟩
        have hb4 : Below w.heap.size w w4 := (hb.alloc hsz _).grown hg4 (by simp; omega) (fun k hk => by injection hk with hk; omega)
        have hgne : some wr.heap.size ≠ some g := fun e => by injection e with e; omega
        have hx0 : w4.cell? ⟨wr.heap.size, 0, none⟩ = some (.int .i64 f) := hg4.cell (by simp) hgne
        have hx1 : w4.cell? ⟨wr.heap.size, 1, none⟩ = some (.int .i64 t) := hg4.cell (by simp) hgne
        have hx2 : w4.cell? ⟨wr.heap.size, 2, none⟩ = some (.int .i64 s) := hg4.cell (by simp) hgne
        have hPa : PaySl (wr.alloc (.cells #[.int .i64 f, .int .i64 t, .int .i64 s] 65)) w.heap.size u3 ps := World.ownsRow.alloc hP _
        have hP4 := hPa.row hg4 (rows_apart hPa hSa (by decide))
        have HPa := hide (World.ownsRow.alloc hP4 (.cells #[.int .i64 f, .int .i64 t, .int .i64 s] 65))
        have hS5 : IntSl (w4.alloc (.cells #[.int .i64 f, .int .i64 t, .int .i64 s] 65)) w.heap.size (.slice (some ⟨g, 0, none⟩) xs.length cc) (carry ⟨f, t, s⟩ ys) := World.ownsRow.alloc hS4 _
        have HS5 := hide hS5
        have HAP := hide (rows_apart hS5 HPa.out (by decide))
        have hsz4 := hb4.size
        have HB4 := hide (hb4.alloc hsz4 (.cells #[.int .i64 f, .int .i64 t, .int .i64 s] 65))
        have HLT := hide (World.ownsRow.lt hP4)
        clear hg4 hS4 hS5 hPa hSa hP4 hP hS
        go_wp2_with (at_builtin; refine wpList_push_pay rfl _ _ rfl w.heap.size u3 ps rfl HPa.out w4.heap.size ⟨f, t, s⟩ rfl (heap_alloc_new w4 _) (by omega) (by simp; omega) ?_; intro gg cap w5 hown hgrow)
        have hb5 : Below w.heap.size w w5 := HB4.out.grown hgrow (by simp; omega) (fun k hk => (HLT.out k hk).1)
        have hS6 : IntSl w5 w.heap.size (.slice (some ⟨g, 0, none⟩) xs.length cc) (carry ⟨f, t, s⟩ ys) := HS5.out.row hgrow HAP.out
        clear hgrow
        go_wp2_with fail
        go_roundw
        case rel => exact ⟨m', ps ++ [⟨f, t, s⟩], carry ⟨f, t, s⟩ ys, by simp; omega, HZ2, HF2, H3, by simpa using hown, hS6, hb5⟩
        case measure => have := HLV.out; simp [lenOf] at *; omega

set_option maxRecDepth 100000 in
set_option maxHeartbeats 4000000 in
theorem specSettleFast_any (A : Addr) (c : Nat) (xs : List Int) (w : World) (hA : IntsAt w (some A) xs) (hl : xs.length ≤ 1048576) :
    Calls Tryd.prog 97 #[.slice (some A) xs.length c] w fun e w' => ∃ v, e = .returned v ∧ PaySl w' w.heap.size v (settleFastL xs) ∧ Below w.heap.size w w' := by
  have hO0 : PaySl (w.alloc (.cells #[] 65)) w.heap.size (.slice (some ⟨w.heap.size, 0, none⟩) 0 0) [] := World.ownsRow_lit w #[] 0 (Nat.le_refl _) (by unfold maxLen; omega) rfl
  have HO0 := hide hO0
  have hba : Below w.heap.size w (w.alloc (.cells #[] 65)) := by go_grown
  have hA0 := hA.below hba
  clear hO0
  cases hI : owedOk xs with
  | false =>
    have HI := hide hI
    have HR : Hid (settleFastL xs = []) := hide (by unfold settleFastL; rw [hI]; rfl)
    clear hI
    go_enter Tryd.func97, Tryd.ntmps97
    go_wp2_with fail
    refine (specOwedValid_any _ _ _ _ hA0 hl).mono ?_
    rintro e w1 ⟨rfl, hB1⟩
    have HP1 := hide (PaySl.below HO0.out hB1)
    have hb1 := next hba hB1
    rw [HI.out]
    go_wp2_with fail
    refine bodyPost_ret (results_tmp rfl _ _ _) rfl ⟨_, rfl, by rw [HR.out]; exact HP1.out, hb1⟩
  | true =>
    have HI := hide hI
    have h7 := owedOk_len hI
    have HF := hide (FInv.start hI)
    have HR : Hid (settleFastL xs = [] ++ fastGo xs.length xs) := hide (by unfold settleFastL; rw [hI]; rfl)
    clear hI
    go_enter Tryd.func97, Tryd.ntmps97
    go_wp2_with fail
    refine (specOwedValid_any _ _ _ _ hA0 hl).mono ?_
    rintro e w1 ⟨rfl, hB1⟩
    have hP1 := PaySl.below HO0.out hB1
    have hb1 := next hba hB1
    rw [HI.out]
    have hsz1 := hb1.size
    have hO : IntSl (w1.alloc (.cells #[] 3)) w.heap.size (.slice (some ⟨w1.heap.size, 0, none⟩) 0 0) [] := World.ownsRow_lit w1 #[] 0 hsz1 (by unfold maxLen; omega) rfl
    have hPO : PaySl (w1.alloc (.cells #[] 3)) w.heap.size (.slice (some ⟨w.heap.size, 0, none⟩) 0 0) [] := World.ownsRow.alloc hP1 _
    have HO := hide hO
    have HPO := hide hPO
    have HAP := hide (rows_apart hPO hO (by decide))
    have HA := hide ((hA0.below hB1).below (w' := w1.alloc (.cells #[] 3)) (by go_grown))
    have hba : Below w.heap.size w (w1.alloc (.cells #[] 3)) := hb1.alloc hsz1 _
    clear hO hPO hP1 hA0 hA
    go_wp2_with (at_builtin; refine wpList_spread_int rfl _ _ rfl w.heap.size (.slice (some ⟨w1.heap.size, 0, none⟩) 0 0) [] rfl HO.out (by simp) A xs.length c xs rfl rfl HA.out (by simp; omega) (by simp; omega) ?_; intro gg cc w2 hown hgrow)
    have hb2 : Below w.heap.size w w2 := hba.grown hgrow (by simp; omega) (by intro k hk; simp [Value.ownBlock] at hk; omega)
    have hP2 := PaySl.row HPO.out hgrow HAP.out
    simp only [List.length_nil, Nat.zero_add, List.nil_append] at hown
    have HS := hide hown
    have HP2 := hide hP2
    clear hown hgrow hba HO HA hB1 hP2 hb1
    go_wp2_with fail
    go_loopw [3] (fun lv wr => ∃ (m : Nat) (ps : List Pay) (ys : List Int), ps.length + m = xs.length ∧ Hid (nz ys ≤ m) ∧ Hid (FInv xs.length ys) ∧ Hid (settleFastL xs = ps ++ fastGo m ys) ∧ PaySl wr w.heap.size lv ps ∧ IntSl wr w.heap.size (.slice (some ⟨gg, 0, none⟩) xs.length cc) ys ∧ Below w.heap.size w wr) (fun lv _ => xs.length - lenOf lv)
    case atStart => exact ⟨xs.length, [], xs, by simp, hide (nz_len xs), HF, HR, HP2.out, HS.out, hb2⟩
    case round =>
      clear HS hb2 HF HR HP2 HPO HAP HO0
      obtain ⟨m, ps, ys, hm, HZ, HF, HG, hP, hS, hb⟩ := hrel
      have hsz := hb.size
      have hylen := HF.out.len
      have HYL := hide hylen
      have HLV : Hid (lenOf u3 = ps.length) := hide (by obtain ⟨_, _, e, _⟩ := hP.form; rw [e]; rfl)
      have HS := hide hS
      have HP := hide hP
      clear hylen hS hP
      go_wp2_with fail
      obtain ⟨wo, rfl⟩ : ∃ wo : World, wo = wr := ⟨_, rfl⟩
      go_loopw [5, 6, 7] (fun fv tv i wr => ∃ (k : Nat) (f t : Int), k ≤ xs.length ∧ i = .int .i64 k ∧ fv = .int .i64 f ∧ tv = .int .i64 t ∧ Hid (FstLow ys k f) ∧ Hid (FstHigh ys k t) ∧ PaySl wr w.heap.size u3 ps ∧ IntSl wr w.heap.size (.slice (some ⟨gg, 0, none⟩) xs.length cc) ys ∧ Below w.heap.size w wr) (fun _ _ i _ => xs.length - (intOf i).toNat)
      case atStart => exact ⟨0, -1, -1, by omega, rfl, rfl, rfl, hide (.inl ⟨rfl, fun i hi => absurd hi (by omega)⟩), hide (.inl ⟨rfl, fun i hi => absurd hi (by omega)⟩), HP.out, HS.out, hb⟩
      case round =>
        clear hb hsz HS HP
        obtain ⟨k, f, t, hk, rfl, rfl, rfl, HLo, HHi, hP, hS, hb⟩ := hrel
        have hsz := hb.size
        by_cases hlt : k < xs.length
        · have hky : k < ys.length := by rw [HYL.out]; exact hlt
          have hcx := hS.cellAt (List.getElem?_eq_getElem hky)
          have HX : Hid (ys.getD k 0 = ys[k]) := hide (by simp [hky])
          generalize ys[k] = x at *
          have HS := hide hS
          have HP := hide hP
          have hz : (0 : Int) ≤ k := by omega
          have hz2 : (k : Int) < xs.length := by omega
          clear hS hP hky
          rcases Int.lt_trichotomy x 0 with hx | hx | hx
          · have hx' : decide (0 < x) = false := decide_eq_false (by omega)
            have hx1 : decide (x < 0) = true := decide_eq_true hx
            have HHi2 := hide (HHi.out.skip (by have := HX.out; omega))
            rcases HLo.out.cases with rfl | ⟨j, rfl, hjk⟩
            · have HLo2 := hide (HLo.out.take (by have := HX.out; omega) (fun j hj => by omega))
              go_wp2_with fail
              go_quiet (fail)
              go_wp2_with fail
              go_quiet (fail)
              go_wp2_with fail
              go_roundw
              case rel => exact ⟨k + 1, k, t, hlt, by go_num, rfl, rfl, HLo2, HHi2, HP.out, HS.out, ⟨hb.os, hb.tape, hb.output, hb.size, hb.block⟩⟩
              case measure => simp [intOf]; omega
            · have hjd : decide ((j : Int) < 0) = false := decide_eq_false (by omega)
              have hjy : j < ys.length := by rw [HYL.out]; omega
              have hcy := HS.out.cellAt (List.getElem?_eq_getElem hjy)
              have HY : Hid (ys.getD j 0 = ys[j]) := hide (by simp [hjy])
              generalize ys[j] = y at *
              have hj0 : ¬ ((j : Int) < 0) := by omega
              have hj1 : (0 : Int) ≤ j := by omega
              have hj2 : (j : Int) < xs.length := by omega
              clear hjy
              by_cases hxy : x < y
              · have hxd : decide (x < y) = true := decide_eq_true hxy
                have HLo2 := hide (HLo.out.take (by have := HX.out; omega) (fun i hi => by obtain rfl : i = j := (by omega); have := HX.out; have := HY.out; omega))
                go_wp2_with fail
                go_quiet (fail)
                go_wp2_with fail
                go_quiet (fail)
                go_wp2_with fail
                go_roundw
                case rel => exact ⟨k + 1, k, t, hlt, by go_num, rfl, rfl, HLo2, HHi2, HP.out, HS.out, ⟨hb.os, hb.tape, hb.output, hb.size, hb.block⟩⟩
                case measure => simp [intOf]; omega
              · have hxd : decide (x < y) = false := decide_eq_false hxy
                have HLo2 := hide (HLo.out.keep (fun e => by omega) (fun i hi => by obtain rfl : i = j := (by omega); have := HX.out; have := HY.out; omega))
                go_wp2_with fail
                go_quiet (fail)
                go_wp2_with fail
                go_quiet (fail)
                go_wp2_with fail
                go_roundw
                case rel => exact ⟨k + 1, j, t, hlt, by go_num, rfl, rfl, HLo2, HHi2, HP.out, HS.out, ⟨hb.os, hb.tape, hb.output, hb.size, hb.block⟩⟩
                case measure => simp [intOf]; omega
          · subst hx
            have hx1 : ¬ ((0 : Int) < 0) := by omega
            have HLo2 := hide (HLo.out.skip (by have := HX.out; omega))
            have HHi2 := hide (HHi.out.skip (by have := HX.out; omega))
            go_wp2_with fail
            go_quiet (fail)
            go_wp2_with fail
            go_quiet (fail)
            go_wp2_with fail
            go_roundw
            case rel => exact ⟨k + 1, f, t, hlt, by go_num, rfl, rfl, HLo2, HHi2, HP.out, HS.out, ⟨hb.os, hb.tape, hb.output, hb.size, hb.block⟩⟩
            case measure => simp [intOf]; omega
          · have hx' : decide (x < 0) = false := decide_eq_false (by omega)
            have hx1 : decide (0 < x) = true := decide_eq_true hx
            have HLo2 := hide (HLo.out.skip (by have := HX.out; omega))
            rcases HHi.out.cases with rfl | ⟨j, rfl, hjk⟩
            · have HHi2 := hide (HHi.out.take (by have := HX.out; omega) (fun j hj => by omega))
              go_wp2_with fail
              go_quiet (fail)
              go_wp2_with fail
              go_quiet (fail)
              go_wp2_with fail
              go_roundw
              case rel => exact ⟨k + 1, f, k, hlt, by go_num, rfl, rfl, HLo2, HHi2, HP.out, HS.out, ⟨hb.os, hb.tape, hb.output, hb.size, hb.block⟩⟩
              case measure => simp [intOf]; omega
            · have hjd : decide ((j : Int) < 0) = false := decide_eq_false (by omega)
              have hjy : j < ys.length := by rw [HYL.out]; omega
              have hcy := HS.out.cellAt (List.getElem?_eq_getElem hjy)
              have HY : Hid (ys.getD j 0 = ys[j]) := hide (by simp [hjy])
              generalize ys[j] = y at *
              have hj0 : ¬ ((j : Int) < 0) := by omega
              have hj1 : (0 : Int) ≤ j := by omega
              have hj2 : (j : Int) < xs.length := by omega
              clear hjy
              by_cases hxy : y < x
              · have hxd : decide (y < x) = true := decide_eq_true hxy
                have HHi2 := hide (HHi.out.take (by have := HX.out; omega) (fun i hi => by obtain rfl : i = j := (by omega); have := HX.out; have := HY.out; omega))
                go_wp2_with fail
                go_quiet (fail)
                go_wp2_with fail
                go_quiet (fail)
                go_wp2_with fail
                go_roundw
                case rel => exact ⟨k + 1, f, k, hlt, by go_num, rfl, rfl, HLo2, HHi2, HP.out, HS.out, ⟨hb.os, hb.tape, hb.output, hb.size, hb.block⟩⟩
                case measure => simp [intOf]; omega
              · have hxd : decide (y < x) = false := decide_eq_false hxy
                have HHi2 := hide (HHi.out.keep (fun e => by omega) (fun i hi => by obtain rfl : i = j := (by omega); have := HX.out; have := HY.out; omega))
                go_wp2_with fail
                go_quiet (fail)
                go_wp2_with fail
                go_quiet (fail)
                go_wp2_with fail
                go_roundw
                case rel => exact ⟨k + 1, f, j, hlt, by go_num, rfl, rfl, HLo2, HHi2, HP.out, HS.out, ⟨hb.os, hb.tape, hb.output, hb.size, hb.block⟩⟩
                case measure => simp [intOf]; omega
        · obtain rfl : k = xs.length := by omega
          cases hz : ys.all (· == 0) with
          | true =>
            obtain rfl := HLo.out.none hz
            obtain rfl := HHi.out.none hz
            have H3 : Hid (settleFastL xs = ps) := hide (by rw [HG.out, fastGo_zero hz, List.append_nil])
            clear hz
            go_wp2_with fail
            refine bodyPost_ret (results_tmp rfl _ _ _) rfl ⟨_, rfl, by rw [H3.out]; exact hP, hb⟩
          | false =>
            have hnz := nz_pos hz
            obtain ⟨m', rfl⟩ : ∃ m', m = m' + 1 := ⟨m - 1, by have := HZ.out; omega⟩
            obtain ⟨f', t', s, hst⟩ := fast_step HF.out hz
            obtain rfl := HLo.out.done HYL.out hst
            obtain rfl := HHi.out.done HYL.out hst
            have hnx := hst.next HF.out
            have H3 : Hid (settleFastL xs = (ps ++ [⟨f', t', s⟩]) ++ fastGo m' (carry ⟨f', t', s⟩ ys)) := hide (by rw [HG.out, fastGo_step hz, hst.eq]; simp)
            have HZ2 : Hid (nz (carry ⟨f', t', s⟩ ys) ≤ m') := hide (by have := HZ.out; have := hnx.2; omega)
            have HF2 := hide hnx.1
            have hfn := hst.f_lt
            have htn := hst.t_lt
            have hfy : f' < ys.length := by rw [HYL.out]; exact hfn
            have hty : t' < ys.length := by rw [HYL.out]; exact htn
            have hvf : ys[f']? = some (minL ys) := by rw [List.getElem?_eq_getElem hfy, ← hst.fv]; simp [hfy]
            have hvt : ys[t']? = some (maxL ys) := by rw [List.getElem?_eq_getElem hty, ← hst.tv]; simp [hty]
            have hcf := hS.cellAt hvf
            have hct := hS.cellAt hvt
            have hff := hS.frozenAt f'
            have hft := hS.frozenAt t'
            have HVF := hide hvf
            have HVT := hide hvt
            have hgl := World.ownsRow.lt hS gg rfl
            have hg0 := hgl.1
            have hg1 := hgl.2
            have heq := hst.eq
            unfold fastStep at heq
            injection heq with q1 q2 q3
            have hlow := hst.low
            have hneg := hst.neg
            have htf := hst.ne
            have HS := hide hS
            have HP := hide hP
            generalize minL ys = mn at *
            generalize maxL ys = mx at *
            have hw1 : IntKind.i64.wrap (-mn) = -mn := IntWalk.i64_in _ (by omega)
            have hf0 : ¬ ((f' : Int) < 0) := by omega
            have hf1 : (0 : Int) ≤ f' := by omega
            have hf2 : (f' : Int) < xs.length := by omega
            have ht0 : ¬ ((t' : Int) < 0) := by omega
            have ht1 : (0 : Int) ≤ t' := by omega
            have ht2 : (t' : Int) < xs.length := by omega
            clear q1 q2 hz hnz hst hnx hfy hty hvf hvt hgl hS hP
            go_wp2_with fail
            go_quiet (fail)
            have hSq : IntSl (wr.drewN nq) w.heap.size (.slice (some ⟨gg, 0, none⟩) xs.length cc) ys := HS.out
            have hPq : PaySl (wr.drewN nq) w.heap.size u3 ps := HP.out
            have hbq : Below w.heap.size w (wr.drewN nq) := ⟨hb.os, hb.tape, hb.output, hb.size, hb.block⟩
            have hW := carry_world0 (d := s) hSq HVF.out HVT.out (.cells #[.int .i64 f', .int .i64 t', .int .i64 s] 65)
            have HPA := hide (hPq.row hW.2 (rows_apart hPq hSq (by decide)))
            have HSA := hide hW.1
            have HBA := hide (hbq.grown hW.2 hbq.size (fun k hk => by injection hk with hk; omega))
            have HAP2 := hide (rows_apart HSA.out HPA.out (by decide))
            have HLT := hide (World.ownsRow.lt HPA.out)
            have HNW : Hid (((((wr.drewN nq).setCell ⟨gg, f', none⟩ (.int .i64 (wrap64 (mn + s)))).setCell ⟨gg, t', none⟩ (.int .i64 (wrap64 (mx - s)))).alloc (.cells #[.int .i64 f', .int .i64 t', .int .i64 s] 65)).heap[wr.heap.size]? = some (.cells #[.int .i64 f', .int .i64 t', .int .i64 s] 65 (0, 0))) := hide (by
              have := heap_alloc_new (((wr.drewN nq).setCell ⟨gg, f', none⟩ (.int .i64 (wrap64 (mn + s)))).setCell ⟨gg, t', none⟩ (.int .i64 (wrap64 (mx - s)))) (.cells #[.int .i64 f', .int .i64 t', .int .i64 s] 65)
              simpa using this)
            clear hSq hPq hbq hW
            go_wp2_with (at_builtin; refine wpList_push_pay rfl _ _ rfl w.heap.size u3 ps rfl HPA.out wr.heap.size ⟨f', t', s⟩ rfl HNW.out (by omega) (by simp; omega) ?_; intro g5 cap w5 hown hgrow)
            have hb6 : Below w.heap.size w w5 := HBA.out.grown hgrow (by simp; omega) (fun k hk => (HLT.out k hk).1)
            have hS6 : IntSl w5 w.heap.size (.slice (some ⟨gg, 0, none⟩) xs.length cc) (carry ⟨f', t', s⟩ ys) := IntSl.row HSA.out hgrow HAP2.out
            clear hgrow
            go_wp2_with fail
            go_roundw
            case rel => exact ⟨m', ps ++ [⟨f', t', s⟩], carry ⟨f', t', s⟩ ys, by simp; omega, HZ2, HF2, H3, by simpa using hown, hS6, hb6⟩
            case measure => have := HLV.out; simp [lenOf] at *; omega
end Go.Proofs.YtgagfaajilbmmaaDoor
