/- BurnList of the reference model.
   Conditions: lists have at most 1048576 elements. -/
import Derived.Test.YteloapholoechaaDoorCook5
import Derived.Test.YteloapholoechaaDoorPush
namespace Go.Proofs.YteloapholoechaaDoor
open Go.RowKit Go.ChangeShapes Go.WideShapes Go.ChangeAt

def FstMin (bs : List Int) (m q : Nat) : Prop := q < m ∧ (∀ i, i < m → bs.getD q 0 ≤ bs.getD i 0) ∧ ∀ i, i < q → bs.getD q 0 < bs.getD i 0
theorem FstMin.start (bs : List Int) : FstMin bs 1 0 := ⟨by omega, fun i hi => by obtain rfl : i = 0 := (by omega); exact Int.le_refl _, fun i hi => absurd hi (by omega)⟩
theorem FstMin.keep {bs : List Int} {m q : Nat} (h : FstMin bs m q) (hx : bs.getD q 0 ≤ bs.getD m 0) : FstMin bs (m + 1) q :=
  ⟨by have := h.1; omega, fun i hi => by
    rcases Nat.lt_or_ge i m with e | e
    · exact h.2.1 i e
    · obtain rfl : i = m := by omega
      exact hx, h.2.2⟩
theorem FstMin.take {bs : List Int} {m q : Nat} (h : FstMin bs m q) (hx : bs.getD m 0 < bs.getD q 0) : FstMin bs (m + 1) m :=
  ⟨by omega, fun i hi => by
    rcases Nat.lt_or_ge i m with e | e
    · have := h.2.1 i e; omega
    · obtain rfl : i = m := by omega
      exact Int.le_refl _, fun i hi => by have := h.2.1 i hi; omega⟩
theorem FstMin.done {bs : List Int} {q : Nat} (h : FstMin bs bs.length q) : idxL (minL bs) bs = q ∧ bs[q]? = some (minL bs) := by
  have hq := h.1
  have hgd : ∀ i (hi : i < bs.length), bs.getD i 0 = bs[i] := fun i hi => by simp [hi]
  have hm := minL_mem (xs := bs) (by omega)
  have he : bs.getD q 0 = minL bs := by
    have a := minL_le (xs := bs) (x := bs.getD q 0) (by rw [hgd q hq]; exact List.getElem_mem hq)
    obtain ⟨i, hi⟩ := List.getElem?_of_mem hm
    obtain ⟨hil, hie⟩ := List.getElem?_eq_some_iff.1 hi
    have b := h.2.1 i hil
    rw [hgd i hil, hie] at b
    omega
  refine ⟨idxL_eq hq he (fun i hi e => ?_), ?_⟩
  · have := h.2.2 i hi
    rw [he, e] at this
    omega
  · rw [List.getElem?_eq_getElem hq, ← hgd q hq, he]

set_option maxRecDepth 100000 in
set_option maxHeartbeats 2000000 in
theorem specBurnList_any (A : Option Addr) (c : Nat) (xs : List Int) (b : Int) (w : World) (hA : IntsAt w A xs) (hl : xs.length ≤ 1048576) :
    Calls Tryd.prog 34 #[.slice A xs.length c, .int .i64 b] w fun e w' => ∃ v, e = .returned v ∧ IntSl w' w.heap.size v (burnListL xs b) ∧ Below w.heap.size w w' := by
  have hO0 : IntSl (w.alloc (.cells #[] 3)) w.heap.size (.slice (some ⟨w.heap.size, 0, none⟩) 0 0) [] := World.ownsRow_lit w #[] 0 (Nat.le_refl _) (by unfold maxLen; omega) rfl
  have HO0 := hide hO0
  have hba : Below w.heap.size w (w.alloc (.cells #[] 3)) := by go_grown
  have hA0 := hA.below hba
  clear hO0
  cases hI : spansOk xs with
  | false =>
    have HI := hide hI
    have H3 : Hid (burnListL xs b = []) := hide (by unfold burnListL burnFit; rw [hI]; rfl)
    clear hI
    go_enter Tryd.func34, Tryd.ntmps34
    go_wp2_with fail
    refine (specSpansValid_any _ _ _ _ hA0 hl).mono ?_
    rintro e w1 ⟨rfl, hB1⟩
    have HP1 := hide (IntSl.below HO0.out hB1)
    have hb1 := next hba hB1
    rw [HI.out]
    go_wp2_with fail
    refine bodyPost_ret (results_tmp rfl _ _ _) rfl ⟨_, rfl, by rw [H3.out]; exact HP1.out, hb1⟩
  | true =>
    have HI := hide hI
    cases hQ : inR b 1 3 with
    | false =>
      have HQ := hide hQ
      have H3 : Hid (burnListL xs b = []) := hide (by unfold burnListL burnFit; rw [hQ]; simp)
      clear hI hQ
      go_enter Tryd.func34, Tryd.ntmps34
      go_wp2_with fail
      refine (specSpansValid_any _ _ _ _ hA0 hl).mono ?_
      rintro e w1 ⟨rfl, hB1⟩
      have HP1 := hide (IntSl.below HO0.out hB1)
      have hb1 := next hba hB1
      rw [HI.out]
      go_wp2_with fail
      refine (l1In_is _ _ _ _ HQ _).mono ?_
      rintro e w' ⟨rfl, rfl⟩
      go_wp2_with fail
      refine bodyPost_ret (results_tmp rfl _ _ _) rfl ⟨_, rfl, by rw [H3.out]; exact HP1.out, hb1⟩
    | true =>
      have HQ := hide hQ
      obtain ⟨n, rfl, hn1, hn3⟩ : ∃ n : Nat, b = n ∧ 1 ≤ n ∧ n ≤ 3 := ⟨b.toNat, by have := inR_iff.1 hQ; omega, by have := inR_iff.1 hQ; omega, by have := inR_iff.1 hQ; omega⟩
      have h6 := spansOk_len hI
      have HR : Hid (burnListL xs n = burnGo (tab n (fun _ => 0)) xs) := hide (by unfold burnListL burnFit; rw [hI, hQ]; simp)
      have hmk := make_ints n (by omega)
      clear hI hQ
      go_enter Tryd.func34, Tryd.ntmps34
      go_wp2_with fail
      refine (specSpansValid_any _ _ _ _ hA0 hl).mono ?_
      rintro e w0 ⟨rfl, hB1⟩
      have hP1 := IntSl.below HO0.out hB1
      have hsz0 : w.heap.size < w0.heap.size := by have := hB1.size; simp at this; omega
      have hb1 := next hba hB1
      rw [HI.out]
      have hsz1 := hb1.size
      have HP2 := hide (World.ownsRow.alloc hP1 (.cells (madeCells #[.int .i64 0] n) 3))
      have HZ2 := hide (zeros_tab w0 (lo := w.heap.size) n hsz1 (by omega))
      have HA1 := hide (hA.below hb1)
      clear hP1 hA0 hba hB1
      go_wp2_with fail
      refine (l1In_is _ _ _ _ HQ _).mono ?_
      rintro e w1 ⟨rfl, rfl⟩
      go_wp2_with fail
      clear hmk
      go_loopw [5, 7] (fun ov i wr => ∃ (k : Nat) (out bs : List Int), k ≤ xs.length ∧ i = .int .i64 k ∧ Hid (out.length = k ∧ BusyOk n k bs ∧ burnListL xs n = out ++ burnGo bs (xs.drop k)) ∧ Hid (ov.ownBlock = none ∨ ov.ownBlock ≠ some w1.heap.size) ∧ IntSl wr w.heap.size ov out ∧ IntSl wr w.heap.size (.slice (some ⟨w1.heap.size, 0, none⟩) n n) bs ∧ Below w.heap.size w wr) (fun _ i _ => xs.length - (intOf i).toNat)
      case atStart => exact ⟨0, [], tab n (fun _ => 0), Nat.zero_le _, rfl, hide ⟨rfl, BusyOk.start n, by rw [HR.out]; rfl⟩, hide (.inr (fun e => by have e : some w.heap.size = some w1.heap.size := e; injection e with e; omega)), HP2.out, HZ2.out, by go_grown⟩
      case round =>
        clear HP2 HZ2 HR hb1 HO0
        obtain ⟨k, out, bs, hk, rfl, HF, HSEP, hS, hS2, hb⟩ := hrel
        have hsz := hb.size
        by_cases hlt : k < xs.length
        · obtain ⟨b1, off1, rfl, hbl1, hc1⟩ := (hA.below hb) k xs[k] (List.getElem?_eq_getElem hlt)
          have HD : Hid (xs.drop k = xs[k] :: xs.drop (k + 1)) := hide (List.drop_eq_getElem_cons hlt)
          have hs := rangeOk_at (spansOk_range HI.out) (List.getElem?_eq_getElem hlt)
          have HXA := hide (List.getElem?_eq_getElem hlt)
          generalize xs[k] = s at *
          obtain ⟨hs0, hs1⟩ := hs
          have hz : (0 : Int) ≤ k := by omega
          have hz2 : (k : Int) < xs.length := by omega
          have HS := hide hS
          have HS2 := hide hS2
          clear hS hS2 hc1 hbl1
          go_wp2_with fail
          obtain ⟨wo, rfl⟩ : ∃ wo : World, wo = wr := ⟨_, rfl⟩
          go_loopw [8, 9] (fun qv i wr => ∃ (m q : Nat), 1 ≤ m ∧ m ≤ n ∧ i = .int .i64 m ∧ qv = .int .i64 q ∧ Hid (FstMin bs m q) ∧ IntSl wr w.heap.size u5 out ∧ IntSl wr w.heap.size (.slice (some ⟨w1.heap.size, 0, none⟩) n n) bs ∧ Below w.heap.size w wr) (fun _ i _ => n - (intOf i).toNat)
          case atStart => exact ⟨1, 0, Nat.le_refl _, hn1, rfl, rfl, hide (FstMin.start bs), HS.out, HS2.out, hb⟩
          case round =>
            clear HS HS2 hb hsz
            obtain ⟨m, q, hm1, hm, rfl, rfl, HM, hS, hS2, hb⟩ := hrel
            have hsz := hb.size
            have hbl := HF.out.2.1.len
            have hqm := HM.out.1
            by_cases hmt : m < n
            · have hcm := hS2.cellAt (List.getElem?_eq_getElem (show m < bs.length by omega))
              have hcq := hS2.cellAt (List.getElem?_eq_getElem (show q < bs.length by omega))
              have HMX : Hid (bs.getD m 0 = bs[m]'(by omega)) := hide (by simp [show m < bs.length by omega])
              have HQX : Hid (bs.getD q 0 = bs[q]'(by omega)) := hide (by simp [show q < bs.length by omega])
              generalize (bs[m]'(by omega)) = x at *
              generalize (bs[q]'(by omega)) = y at *
              have hm0 : (0 : Int) ≤ m := by omega
              have hm2 : (m : Int) < n := by omega
              have hq0 : (0 : Int) ≤ q := by omega
              have hq2 : (q : Int) < n := by omega
              have HS := hide hS
              have HS2 := hide hS2
              clear hS hS2 hbl hqm
              by_cases hxy : x < y
              · have hxd : decide (x < y) = true := decide_eq_true hxy
                have HM2 := hide (HM.out.take (by rw [HMX.out, HQX.out]; exact hxy))
                go_wp2_with fail
                go_quiet (fail)
                go_wp2_with fail
                go_roundw
                case rel => exact ⟨m + 1, m, by omega, hmt, by go_num, rfl, HM2, HS.out, HS2.out, ⟨hb.os, hb.tape, hb.output, hb.size, hb.block⟩⟩
                case measure => simp [intOf]; omega
              · have hxd : decide (x < y) = false := decide_eq_false hxy
                have HM2 := hide (HM.out.keep (by rw [HMX.out, HQX.out]; omega))
                go_wp2_with fail
                go_quiet (fail)
                go_wp2_with fail
                go_roundw
                case rel => exact ⟨m + 1, q, by omega, hmt, by go_num, rfl, HM2, HS.out, HS2.out, ⟨hb.os, hb.tape, hb.output, hb.size, hb.block⟩⟩
                case measure => simp [intOf]; omega
            · obtain rfl : m = n := by omega
              have hdn := FstMin.done (bs := bs) (q := q) (by rw [hbl]; exact HM.out)
              obtain ⟨b1, off1, e1, hbl1, hc1⟩ := (hA.below hb) k s HXA.out
              injection e1 with e1
              injection e1 with e1 e2
              subst e1 e2
              have hcq := hS2.cellAt hdn.2
              have hfz := hS2.frozenAt q
              have hmem := List.mem_of_getElem? hdn.2
              have hrng := HF.out.2.1.rng _ hmem
              have HF2 : Hid ((out ++ [(q : Int)]).length = k + 1 ∧ BusyOk m (k + 1) (bs.set q (minL bs + s)) ∧ burnListL xs m = (out ++ [(q : Int)]) ++ burnGo (bs.set q (minL bs + s)) (xs.drop (k + 1))) := hide (by
                refine ⟨by simp [HF.out.1], HF.out.2.1.next hmem hs0 hs1, ?_⟩
                rw [HF.out.2.2, HD.out, burnGo, hdn.1, show bs.getD q 0 = minL bs from by simp [List.getD_eq_getElem?_getD, hdn.2]]
                simp)
              have hol := HF.out.1
              have hgl := (World.ownsRow.lt hS2 _ rfl).2
              have g2 := IntSl.grownSet hS2 q (minL bs + s)
              have b2 := IntSl.store hS2 q (minL bs + s)
              have o2 := IntSl.row hS g2 HSEP.out
              have hb3 := hb.grown g2 hsz (fun k hk => by injection hk with hk; omega)
              generalize minL bs = v at *
              have hw1 : IntKind.i64.wrap (v + s) = v + s := IntWalk.i64_in _ (by omega)
              have HO2 := hide (World.ownsRow.alloc o2 (.cells #[.int .i64 q] 3))
              have HB2 := hide (World.ownsRow.alloc b2 (.cells #[.int .i64 q] 3))
              have HB3 := hide (hb3.alloc hb3.size (.cells #[.int .i64 q] 3))
              have HNW : Hid (((wr.setCell ⟨w1.heap.size, q, none⟩ (.int .i64 (v + s))).alloc (.cells #[.int .i64 q] 3)).heap[wr.heap.size]? = some (.cells #[.int .i64 q] 3 (0, 0))) := hide (by
                have := heap_alloc_new (wr.setCell ⟨w1.heap.size, q, none⟩ (.int .i64 (v + s))) (.cells #[.int .i64 q] 3)
                simpa using this)
              have HLT := hide (World.ownsRow.lt hS)
              have hmn : ¬ (m : Int) < m := by omega
              have hq0 : (0 : Int) ≤ q := by omega
              have hq2 : (q : Int) < m := by omega
              clear hdn hmem hrng hbl hqm g2 b2 o2 hb3 hS hS2
              go_wp2_with fail
              refine still_tail_drew 12 (by kernel_rfl) (by kernel_rfl) ?_
              simp only [List.take_succ_cons, List.take_zero, List.drop_succ_cons, List.drop_zero]
              repeat still_step
              refine wpStill_nil ?_
              go_wp2_with (at_builtin; refine wpList_push_int rfl _ _ rfl w.heap.size u5 out rfl HO2.out wr.heap.size (q : Int) rfl HNW.out (by omega) (by simp; omega) ?_; intro g5 cap w5 hown hgrow hnew)
              have hb5 : Below w.heap.size w w5 := HB3.out.drew.grown hgrow (by simp; omega) (fun k hk => (HLT.out k hk).1)
              have hS6 : IntSl w5 w.heap.size (.slice (some ⟨w1.heap.size, 0, none⟩) m m) (bs.set q (v + s)) := IntSl.row (IntSl.drew HB2.out) hgrow (.inr (fun e => by
                have e : some w1.heap.size = u5.ownBlock := e
                rcases HSEP.out with h | h
                · rw [h] at e; cases e
                · exact h e.symm))
              rw [hol] at hown
              have HSEP2 : Hid ((Value.slice (some ⟨g5, 0, none⟩) (k + 1) cap).ownBlock = none ∨ (Value.slice (some ⟨g5, 0, none⟩) (k + 1) cap).ownBlock ≠ some w1.heap.size) := hide (.inr (fun e => by
                have e : some g5 = some w1.heap.size := e
                injection e with e
                subst e
                rcases hnew with h | h
                · rcases HSEP.out with h2 | h2
                  · rw [h2] at h; cases h
                  · exact h2 h
                · simp at h; omega))
              clear hgrow hnew
              go_wp2_with fail
              go_roundw
              case rel => exact ⟨k + 1, out ++ [(q : Int)], bs.set q (v + s), hlt, by go_num, HF2, HSEP2, hown, hS6, hb5⟩
              case measure => simp [intOf]; omega
        · have H3 : Hid (burnListL xs n = out) := hide (by
            rw [HF.out.2.2, List.drop_of_length_le (by omega)]
            simp [burnGo])
          go_wp2_with fail
          refine bodyPost_ret (results_tmp rfl _ _ _) rfl ⟨_, rfl, by rw [H3.out]; exact hS, hb⟩
end Go.Proofs.YteloapholoechaaDoor
