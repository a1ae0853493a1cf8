/- LateS: contract of StartsLate of the reference model.
   Conditions: lists have at most 1048576 elements. -/
import Derived.Test.YtgagfaajilbmmaaTaskMath
import Derived.Test.YtgagfaajilbmmaaZeros
import Derived.Test.YtgagfaajilbmmaaPush
namespace Go.Proofs.Ytgagfaajilbmmaa
open Go.RowKit Go.ChangeShapes Go.WideShapes Go.ChangeAt Go.Deep

theorem late_no {l : List Task} (h : tasksOk l = false) : startsLateL l = [] := by unfold startsLateL; rw [if_neg (by rw [h]; decide)]
/-- What the latest times are while they are found. -/
structure LateB (l : List Task) (B : Int) (out : List Int) : Prop where
  len : out.length = l.length
  rng : ∀ t ∈ out, B ≤ t ∧ t ≤ 210
theorem LateB.at_ {l : List Task} {B : Int} {out : List Int} (h : LateB l B out) {i : Nat} (hi : i < l.length) : B ≤ out.getD i 0 ∧ out.getD i 0 ≤ 210 := by
  have hl : i < out.length := by rw [h.len]; exact hi
  have := h.rng _ (List.getElem_mem hl)
  simpa [hl] using this
theorem LateB.put {l : List Task} {B v : Int} {out : List Int} (h : LateB l B out) (a : Nat) (h0 : B ≤ v) (h1 : v ≤ 210) : LateB l B (out.set a v) :=
  ⟨by rw [List.length_set]; exact h.len, fun t ht => by
    rcases List.mem_or_eq_of_mem_set ht with ht | rfl
    · exact h.rng t ht
    · exact ⟨h0, h1⟩⟩
theorem LateB.low {l : List Task} {B C : Int} {out : List Int} (h : LateB l B out) (hB : C ≤ B) : LateB l C out := ⟨h.len, fun t ht => by have := h.rng t ht; omega⟩
theorem late_first {l : List Task} (h : tasksOk l = true) : LateB l (-30) (l.map (fun x => tasksEndL l - x.span)) :=
  ⟨by simp, fun t ht => by
    obtain ⟨x, hx, rfl⟩ := List.mem_map.1 ht
    have a := tasks_span h x hx
    have b := end_nn h
    have c := end_top h
    omega⟩

set_option maxRecDepth 100000 in
set_option maxHeartbeats 4000000 in
theorem specStartsLate_any (A : Option Addr) (c : Nat) (l : List Task) (w : World) (hA : TasksAt w A l) (hl : l.length ≤ 1048576) (hp : ∀ x ∈ l, x.after.length ≤ 1048576) :
    Calls Try.prog 16 #[.slice A l.length c] w fun e w' => ∃ v, e = .returned v ∧ IntSl w' w.heap.size v (startsLateL l) ∧ Below w.heap.size w w' := by
  have HP := hide hp
  clear hp
  have hO0 : IntSl (w.alloc (.cells #[] 3)) w.heap.size (.slice (some ⟨w.heap.size, 0, none⟩) 0 0) [] := World.ownsRow_lit w #[] 0 (Nat.le_refl _) (by unfold maxLen; omega) rfl
  have HO0 := hide hO0
  have hba : Below w.heap.size w (w.alloc (.cells #[] 3)) := by go_grown
  have HA0 := hide (hA.below hba)
  clear hO0
  cases hI : tasksOk l with
  | false =>
    have H3 := hide (late_no hI)
    have HE : Hid (tasksEndL l = -1) := hide (by unfold tasksEndL; rw [hI]; rfl)
    clear hI
    go_enter Try.func16, Try.ntmps16
    go_wp2_with fail
    refine (specTasksEnd_any _ _ _ _ HA0.out hl HP.out).mono ?_
    rintro e w1 ⟨rfl, hB1⟩
    rw [HE.out]
    have HP1 := hide (IntSl.below HO0.out hB1)
    have hb1 := next hba hB1
    go_wp2_with fail
    go_loopw [3, 5] (fun ov i wr => ov = .slice (some ⟨w.heap.size, 0, none⟩) 0 0 ∧ i = .int .i64 0 ∧ IntSl wr w.heap.size (.slice (some ⟨w.heap.size, 0, none⟩) 0 0) [] ∧ Below w.heap.size w wr) (fun _ _ _ => 0)
    case atStart => exact ⟨rfl, rfl, HP1.out, hb1⟩
    case round =>
      clear HP1 hb1
      obtain ⟨rfl, rfl, hP, hb⟩ := hrel
      have HP2 := hide hP
      clear hP
      go_wp2_with fail
      all_goals
        go_loopw [6] (fun i wr => i = .int .i64 (-1) ∧ IntSl wr w.heap.size (.slice (some ⟨w.heap.size, 0, none⟩) 0 0) [] ∧ Below w.heap.size w wr) (fun _ _ => 0)
        case atStart => first | exact ⟨rfl, HP2.out, hb⟩ | exact ⟨by simp, HP2.out, hb⟩
        case round =>
          clear HP2 hb
          obtain ⟨rfl, hP, hb⟩ := hrel
          have HP3 := hide hP
          clear hP
          go_wp2_with fail
          refine bodyPost_ret (results_tmp rfl _ _ _) rfl ⟨_, rfl, by rw [H3.out]; exact HP3.out, hb⟩
  | true =>
    have HI := hide hI
    have h7 := tasksOk_len hI
    obtain ⟨en, HE⟩ : ∃ en, Hid (tasksEndL l = en) := ⟨_, hide rfl⟩
    have he0 : 0 ≤ en := by rw [← HE.out]; exact end_nn hI
    have he1 : en ≤ 210 := by rw [← HE.out]; exact end_top hI
    have H0 : Hid (startsLateL l = lateGo l l.length (l.map (fun x => en - x.span))) := hide (by unfold startsLateL; rw [if_pos hI, HE.out])
    have HF0 : Hid (LateB l (-30) (l.map (fun x => en - x.span))) := hide (by rw [← HE.out]; exact late_first hI)
    have HSPN := hide (tasks_span hI)
    clear hI
    go_enter Try.func16, Try.ntmps16
    go_wp2_with fail
    refine (specTasksEnd_any _ _ _ _ HA0.out hl HP.out).mono ?_
    rintro e w1 ⟨rfl, hB1⟩
    rw [HE.out]
    have HP1 := hide (IntSl.below HO0.out hB1)
    have hb1 := next hba hB1
    clear HO0 HA0 hba hB1
    go_wp2_with fail
    go_loopw [3, 5] (fun ov i wr => ∃ (k g cap : Nat) (out : List Int), k ≤ l.length ∧ i = .int .i64 k ∧ ov = .slice (some ⟨g, 0, none⟩) k cap ∧ Hid (out.length = k ∧ out = (l.map (fun x => en - x.span)).take k) ∧ IntSl wr w.heap.size (.slice (some ⟨g, 0, none⟩) k cap) out ∧ Below w.heap.size w wr) (fun _ i _ => l.length - (intOf i).toNat)
    case atStart => exact ⟨0, w.heap.size, 0, [], Nat.zero_le _, rfl, rfl, hide ⟨rfl, rfl⟩, HP1.out, hb1⟩
    case round =>
      clear HP1 hb1
      obtain ⟨k, g, cap, out, hk, rfl, rfl, HF, hS, hb⟩ := hrel
      have hsz := hb.size
      by_cases hlt : k < l.length
      · obtain ⟨x, HX⟩ : ∃ x, Hid (l[k]? = some x) := ⟨_, hide (List.getElem?_eq_getElem hlt)⟩
        obtain ⟨b, off, C, d, rfl, hbl, hc1, hc2, hpa⟩ := (hA.below hb) k x HX.out
        have hsp := HSPN.out x (List.mem_of_getElem? HX.out)
        have HT2 : Hid ((out ++ [en - x.span]).length = k + 1 ∧ out ++ [en - x.span] = (l.map (fun x => en - x.span)).take (k + 1)) := hide (by
          have hx : (l.map (fun x => en - x.span))[k]? = some (en - x.span) := by rw [List.getElem?_map, HX.out]; rfl
          obtain ⟨hk', e⟩ := List.getElem?_eq_some_iff.1 hx
          refine ⟨by rw [List.length_append, HF.out.1]; rfl, ?_⟩
          rw [List.take_succ_eq_append_getElem hk', e, ← HF.out.2])
        have HLN := hide HF.out.1
        have hlo : out.length ≤ 1048576 := by rw [HLN.out]; omega
        have HSA := hide (World.ownsRow.alloc hS (.cells #[.int .i64 (en - x.span)] 3))
        have HBA := hide (hb.alloc hsz (.cells #[.int .i64 (en - x.span)] 3))
        have HLT := hide (World.ownsRow.lt hS)
        have hz : (0 : Int) ≤ k := by omega
        have hz2 : (k : Int) < l.length := by omega
        obtain ⟨hs0, hs1⟩ := hsp
        clear hS hc2 hpa
        go_wp2_with (at_builtin; refine wpList_push_int rfl _ _ rfl w.heap.size (.slice (some ⟨g, 0, none⟩) k cap) out rfl HSA.out wr.heap.size (en - x.span) rfl (heap_alloc_new wr _) (by omega) (by simp; omega) ?_; intro g5 cap5 w5 hown hgrow hnew)
        have hb5 : Below w.heap.size w w5 := HBA.out.grown hgrow (by simp; omega) (fun k hk => (HLT.out k hk).1)
        rw [HLN.out] at hown ⊢
        clear hgrow hnew
        go_wp2_with fail
        go_roundw
        case rel => exact ⟨k + 1, g5, cap5, out ++ [en - x.span], hlt, by go_num, rfl, HT2, hown, hb5⟩
        case measure => simp [intOf]; omega
      · obtain ⟨n, hn⟩ : ∃ n : Nat, l.length = n := ⟨_, rfl⟩
        obtain rfl : k = n := by omega
        have HLN := hide hn
        have HOUT : Hid (out = l.map (fun x => en - x.span)) := hide (by rw [HF.out.2, List.take_of_length_le (by simp; omega)])
        have HF1 : Hid (LateB l (-30) out) := hide (by rw [HOUT.out]; exact HF0.out)
        have H1 : Hid (startsLateL l = lateGo l k out) := hide (by rw [H0.out, HOUT.out, hn])
        have HS := hide hS
        have hk7 : k ≤ 7 := by omega
        rw [hn] at hk hlt ⊢
        have hll : ¬ ((k : Int) < k) := by omega
        clear hS HOUT HF HF0 H0 hn
        go_wp2_with fail
        go_loopw [6] (fun iv wr => ∃ (j : Nat) (o : List Int), j ≤ k ∧ iv = .int .i64 ((j : Int) - 1) ∧ Hid (startsLateL l = lateGo l j o) ∧ Hid (LateB l (-30 * ((k : Int) - j + 1)) o) ∧ IntSl wr w.heap.size (.slice (some ⟨g, 0, none⟩) k cap) o ∧ Below w.heap.size w wr) (fun iv _ => (intOf iv + 1).toNat)
        case atStart => exact ⟨k, out, Nat.le_refl _, by first | rfl | simp, H1, hide (HF1.out.low (by omega)), HS.out, hb⟩
        case round =>
          clear H1 HF1 HS hb hsz
          obtain ⟨j, o, hj, rfl, HG, HB, hS, hb⟩ := hrel
          have hsz := hb.size
          cases j with
          | zero =>
            have H3 : Hid (startsLateL l = o) := hide (by rw [HG.out]; rfl)
            go_wp2_with fail
            refine bodyPost_ret (results_tmp rfl _ _ _) rfl ⟨_, rfl, by rw [H3.out]; exact hS, hb⟩
          | succ j =>
            obtain ⟨x, HX⟩ : ∃ x, Hid (l[j]? = some x) := ⟨_, hide (List.getElem?_eq_getElem (by rw [HLN.out]; omega))⟩
            obtain ⟨b, off, C, d, rfl, hbl, hc1, hc2, hpa⟩ := (hA.below hb) j x HX.out
            have HG2 : Hid (startsLateL l = lateGo l j (lateRow l j o x.after)) := hide (by rw [HG.out, lateGo, getDT_at HX.out])
            have hx : x.after.length ≤ 1048576 := HP.out _ (List.mem_of_getElem? HX.out)
            have HT : Hid (∀ a ∈ x.after, 0 ≤ a ∧ a < (j : Int)) := hide (tasksOk_at HI.out HX.out).2
            have HC2 := hide hc2
            have HPA := hide hpa
            obtain ⟨ok, HOK⟩ : ∃ ok, Hid (o.getD j 0 = ok) := ⟨_, hide rfl⟩
            have hokr := HB.out.at_ (i := j) (by rw [HLN.out]; omega)
            rw [HOK.out] at hokr
            obtain ⟨hok0, hok1⟩ := hokr
            have hji : ((j + 1 : Nat) : Int) - 1 = (j : Int) := by omega
            have hok0' : -30 * ((k : Int) - j) ≤ ok := by omega
            have HB1 : Hid (LateB l (-30 * ((k : Int) - j) - 30) o) := hide (HB.out.low (by omega))
            have hz : (0 : Int) ≤ j := by omega
            have hz2 : (j : Int) < k := by omega
            have HS := hide hS
            clear hS hc1 hc2 hpa HB HG hok0
            rw [hji]
            go_wp2_with fail
            obtain ⟨wo, hwo⟩ : ∃ wo : World, wo = wr := ⟨_, rfl⟩
            rw [← hwo] at hbl HC2 HPA
            have HWO := hide (show Below w.heap.size w wo by rw [hwo]; exact hb)
            have HWB : Hid (Below wo.heap.size wo wr) := hide (by rw [hwo]; exact Below.refl _ _)
            clear hwo
            go_loopw [7] (fun iv wr => ∃ (i : Nat) (o2 : List Int), i ≤ x.after.length ∧ iv = .int .i64 i ∧ Hid (lateRow l j o x.after = lateRow l j o2 (x.after.drop i)) ∧ Hid (LateB l (-30 * ((k : Int) - j) - 30) o2) ∧ Hid (o2.getD j 0 = ok) ∧ IntSl wr w.heap.size (.slice (some ⟨g, 0, none⟩) k cap) o2 ∧ Below w.heap.size w wr) (fun iv _ => x.after.length - (intOf iv).toNat)
            case atStart => exact ⟨0, o, Nat.zero_le _, rfl, hide rfl, HB1, HOK, HS.out, hb⟩
            case round =>
              clear HS HB1 HOK HWB hb hsz
              obtain ⟨i, o2, hi, rfl, HR, HB, HOK, hS, hb⟩ := hrel
              have hsz := hb.size
              obtain ⟨b', off', C', d', hA', hbl', hc1, hc2', hpa'⟩ := (hA.below hb) j x HX.out
              injection hA' with hA'
              injection hA' with e1 e2
              subst e1 e2
              have hc2 := hc2'
              by_cases hit : i < x.after.length
              · obtain ⟨a, HAJ⟩ : ∃ a, Hid (x.after[i]? = some a) := ⟨_, hide (List.getElem?_eq_getElem hit)⟩
                obtain ⟨b2, off2, rfl, hbl2, hd⟩ := hpa' i a HAJ.out
                have HDJ : Hid (x.after.drop i = a :: x.after.drop (i + 1)) := hide (by
                  have := HAJ.out
                  rw [List.getElem?_eq_getElem hit] at this
                  injection this with this
                  rw [List.drop_eq_getElem_cons hit, this])
                obtain ⟨m, rfl, hmk⟩ : ∃ m : Nat, a = m ∧ m < j := by
                  have := HT.out a (List.mem_of_getElem? HAJ.out)
                  exact ⟨a.toNat, by omega, by omega⟩
                obtain ⟨y, HY⟩ : ∃ y, Hid (l[m]? = some y) := ⟨_, hide (List.getElem?_eq_getElem (by rw [HLN.out]; omega))⟩
                obtain ⟨b3, off3, C3, d3, hA3, hbl3, hy1, -, -⟩ := (hA.below hb) m y HY.out
                injection hA3 with hA3
                injection hA3 with e1 e2
                subst e1 e2
                obtain ⟨hy2, hy3⟩ := HSPN.out y (List.mem_of_getElem? HY.out)
                have hlen := HB.out.len
                obtain ⟨om, HOM⟩ : ∃ om, Hid (o2[m]? = some om) := ⟨_, hide (List.getElem?_eq_getElem (by rw [hlen, HLN.out]; omega))⟩
                have hjo : o2[j]? = some ok := by
                  have h := List.getElem?_eq_getElem (show j < o2.length by rw [hlen, HLN.out]; omega)
                  have := HOK.out
                  rw [getDT_at h] at this
                  rw [h, this]
                obtain ⟨hm0r, hm1r⟩ := HB.out.rng om (List.mem_of_getElem? HOM.out)
                have hcm := hS.cellAt HOM.out
                have hcj := hS.cellAt hjo
                have hfz := hS.frozenAt m
                obtain ⟨nv, hnv⟩ : ∃ nv, (if ok - y.span < om then ok - y.span else om) = nv := ⟨_, rfl⟩
                have hnvr : -30 * ((k : Int) - j) - 30 ≤ nv ∧ nv ≤ 210 := by rw [← hnv]; split <;> omega
                have HR2 : Hid (lateRow l j o x.after = lateRow l j (o2.set m nv) (x.after.drop (i + 1))) := hide (by
                  rw [HR.out, HDJ.out, lateRow, HOK.out, Int.toNat_natCast, getDT_at HOM.out, spanAt, getDT_at HY.out, hnv])
                have HB2 := hide (HB.out.put m hnvr.1 hnvr.2)
                have HOK2 : Hid ((o2.set m nv).getD j 0 = ok) := hide (by
                  rw [List.getD_eq_getElem?_getD, List.getElem?_set_ne (by omega), ← List.getD_eq_getElem?_getD]
                  exact HOK.out)
                have HSS := hide (IntSl.store hS m nv)
                have hgs := IntSl.grownSet hS m nv
                have hgl := (World.ownsRow.lt hS g rfl).1
                have HBS := hide (hb.grown hgs hsz (fun k hk => by injection hk with hk; omega))
                have hv : (0 : Int) ≤ i := by omega
                have hv2 : (i : Int) < x.after.length := by omega
                have hm0 : (0 : Int) ≤ m := by omega
                have hm1 : (m : Int) < l.length := by rw [HLN.out]; omega
                have hm2 : (m : Int) < k := by omega
                have hjl : (j : Int) < l.length := by rw [HLN.out]; omega
                have hws : IntKind.i64.wrap (ok - y.span) = ok - y.span := IntWalk.i64_in _ (by omega)
                clear hS hgs hgl hjo hlen hnvr hpa'
                go_wp2_with fail
                refine still_tail_drew 18 (by kernel_rfl) (by kernel_rfl) ?_
                simp only [List.take_succ_cons, List.take_zero, List.drop_succ_cons, List.drop_zero]
                repeat still_step
                refine wpStill_nil ?_
                go_wp2_with fail
                go_roundw
                case rel => exact ⟨i + 1, o2.set m nv, hit, by go_num, HR2, HB2, HOK2, IntSl.drew HSS.out, HBS.out.drew⟩
                case measure => simp [intOf]; omega
              · have H3 : Hid (startsLateL l = lateGo l j o2) := hide (by rw [HG2.out, HR.out, List.drop_of_length_le (by omega), lateRow])
                have HS2 := hide hS
                have hjl : (j : Int) < l.length := by rw [HLN.out]; omega
                clear hS hpa'
                go_wp2_with fail
                go_roundw
                case rel => exact ⟨j, o2, by omega, by first | rfl | simp, H3, hide (HB.out.low (by omega)), HS2.out, hb⟩
                case measure => simp [intOf]
end Go.Proofs.Ytgagfaajilbmmaa
