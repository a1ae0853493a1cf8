/- For all drawn bytes the law of TasksEnd answers true, and its argument reads as it did.
   Conditions: none. -/
import Derived.Test.YteloapholoechaaDoorLawKit
import Derived.Test.YteloapholoechaaDoorDrawTasks
import Derived.Test.YteloapholoechaaDoorTaskMath
import Derived.Test.YteloapholoechaaDoorEnds
import Derived.Test.YteloapholoechaaDoorEarly3
namespace Go.Proofs.YteloapholoechaaDoor
open Go.RowKit Go.ChangeShapes Go.WideShapes Go.ChangeAt Go.Deep

set_option maxHeartbeats 1000000 in
theorem drawTasksEnd_any (A : Option Addr) (c m : Nat) (w : World) (hB : BytesIn w A m) (hm : m ≤ 9223372036854775807) (hc : m ≤ c) (hc2 : c ≤ 9223372036854775807) :
    Calls Tryd.prog 48 #[.slice A m c] w (DrawnTk w) := by
  go_enter Tryd.func48, Tryd.ntmps48
  go_wp2_with fail
  refine (open_any A c m w hB hm hc hc2).mono ?_
  rintro e w1 ⟨rfl, hR1, hb1⟩
  go_wp2_with fail
  refine (l20Tasks_any w.heap.size 0 9 _ hR1 (by omega) (by omega)).mono ?_
  intro e w2 h2
  obtain ⟨l, g, c2, rfl, r⟩ := drawn_of h2 hb1 (Nat.le_refl _)
  have HR := hide r
  clear r h2
  go_wp2_with fail
  refine bodyPost_ret (results_tmp rfl _ _ _) rfl ⟨l, g, c2, rfl, HR.out⟩

set_option maxRecDepth 100000 in
set_option maxHeartbeats 4000000 in
theorem lawTasksEnd_any (A : Option Addr) (c m : Nat) (w : World) (hB : BytesIn w A m) (hc : m ≤ c) (hc2 : c ≤ 9223372036854775807) :
    Calls Tryd.prog 11 #[.slice A m c] w fun e w' => e = .returned (.bool true) ∧ Below w.heap.size w w' := by
  by_cases hlen : (1048576 : Int) < m
  · go_enter Tryd.func11, Tryd.ntmps11
    go_wp2_with fail
    go_ret
    exact ⟨rfl, by go_grown⟩
  · go_enter Tryd.func11, Tryd.ntmps11
    go_wp2_with fail
    refine (drawTasksEnd_any A c m w hB (by omega) hc hc2).mono ?_
    rintro e w1 ⟨l, g, c1, rfl, hI, hl8, hlc, hcm, hle, hb1⟩
    have HI1 := hide hI
    have HP := hide (fun (x : Task) (hx : x ∈ l) => Nat.le_trans (hle x hx) (by omega : 8 ≤ 1048576))
    have hc9 : c1 ≤ 9223372036854775807 := by unfold maxLen at hcm; omega
    have hl' : l.length ≤ 1048576 := by omega
    clear hI hle hcm
    obtain ⟨v, HV⟩ : ∃ v, Hid (tasksEndL l = v) := ⟨_, hide rfl⟩
    have hbb : (v != v) = false := by simp
    go_wp2_with fail
    refine (implTasksEnd_any _ _ _ _ HI1.out hl' HP.out).mono ?_
    rintro e w2 ⟨rfl, hB2⟩
    rw [HV.out]
    have hb2 := next hb1 hB2
    have HI2 := hide (HI1.out.below hB2)
    clear hB2 HI1
    go_wp2_with fail
    refine (specTasksEnd_any _ _ _ _ HI2.out hl' HP.out).mono ?_
    rintro e w3 ⟨rfl, hB3⟩
    rw [HV.out]
    have hb3 := next hb2 hB3
    have HI3 := hide (HI2.out.below hB3)
    clear hB3 HI2
    cases hM : tasksOk l with
    | false =>
      obtain rfl : v = -1 := by rw [← HV.out]; unfold tasksEndL; rw [hM]; rfl
      clear hM
      go_wp2_with fail
      refine (alive_any _).mono ?_
      rintro e w9 ⟨rfl, hB9⟩
      go_wp2_with fail
      go_ret
      exact ⟨rfl, next hb3 hB9⟩
    | true =>
      have h7 := tasksOk_len hM
      have hv0 := end_nn hM
      have hv1 := end_top hM
      have hvs := end_sum hM
      have HSP := hide (end_span hM)
      have HRG : Hid (∀ x ∈ l, 0 ≤ x.span ∧ x.span ≤ 30) := hide (fun x hx => by
        obtain ⟨i, hi⟩ := List.getElem?_of_mem hx
        exact (tasksOk_at hM hi).1)
      have HTK := hide (end_take hM (m := l.length - 1) (by omega))
      obtain ⟨u, HU⟩ : ∃ u, Hid (tasksEndL (l.take (l.length - 1)) = u) := ⟨_, hide rfl⟩
      rw [HV.out] at hv0 hv1 hvs HSP HTK
      rw [HU.out] at HTK
      have hu := HTK.out
      have hd1 : decide (v < 0) = false := decide_eq_false (by omega)
      have hd2 : decide (u ≤ v) = true := decide_eq_true hu
      have HM := hide hM
      clear hM HTK hu
      go_wp2_with fail
      go_loopw [5, 6] (fun sv iv wr => ∃ (k : Nat) (s : Int), k ≤ l.length ∧ iv = .int .i64 k ∧ sv = .int .i64 s ∧ 0 ≤ s ∧ s ≤ 30 * k ∧ Hid (s = sumL ((l.take k).map (·.span))) ∧ wr = w3) (fun _ iv _ => l.length - (intOf iv).toNat)
      case atStart => exact ⟨0, 0, Nat.zero_le _, rfl, rfl, by omega, by omega, hide rfl, rfl⟩
      case round =>
        obtain ⟨k, s, hk, rfl, rfl, hs0, hs1, HS, rfl⟩ := hrel
        by_cases hkl : k < l.length
        · obtain ⟨ab, off, A2, c2, he, hbl, hr1, -, -⟩ := HI3.out k l[k] (List.getElem?_eq_getElem hkl)
          injection he with he
          injection he with he1 he2
          subst he1 he2
          rw [Nat.zero_add] at hr1
          have hx := HRG.out l[k] (List.getElem_mem hkl)
          have hy := HSP.out l[k] (List.getElem_mem hkl)
          have H3 : Hid (s + l[k].span = sumL ((l.take (k + 1)).map (·.span))) := hide (by rw [sum_take_succ hkl, HS.out]; unfold spanAt; rw [getDT_at (List.getElem?_eq_getElem hkl)])
          generalize l[k] = x at *
          obtain ⟨sp, hsp⟩ : ∃ sp, x.span = sp := ⟨_, rfl⟩
          rw [hsp] at hx hy hr1 H3
          have hx0 := hx.1
          have hx1 := hx.2
          have hd3 : decide (v < sp) = false := decide_eq_false (by omega)
          have hk0 : (0 : Int) ≤ k := by omega
          have hk1 : (k : Int) < l.length := by omega
          clear hx
          go_wp2_with fail
          go_roundw
          case rel => exact ⟨k + 1, s + sp, hkl, by go_num, rfl, by omega, by omega, H3, trivial⟩
          case measure => simp [intOf]; omega
        · obtain rfl : k = l.length := by omega
          have hss : s = sumL (l.map (·.span)) := by rw [HS.out, List.take_length]
          rw [← hss] at hvs
          have hd4 : decide (v ≤ s) = true := decide_eq_true hvs
          clear hss
          by_cases h0 : l.length = 0
          · have hl0 : ((l.length : Int) == 0) = true := by simp [h0]
            go_wp2_with fail
            go_ret
            exact ⟨rfl, hb3⟩
          · have hl0 : ((l.length : Int) == 0) = false := by simp [h0]
            have hl1 : (0 : Int) < l.length := by omega
            have HCT := hide (fun W hW => implTasksEnd_any (some ⟨g, 0, none⟩) c1 (l.take (l.length - 1)) W hW (by rw [List.length_take]; omega) (fun x hx => HP.out x (List.mem_of_mem_take hx)))
            have hlt : (l.take (l.length - 1)).length = l.length - 1 := by rw [List.length_take]; omega
            rw [HU.out, hlt] at HCT
            have hsl : ∀ W, (Instr.slice 48 (.slice (some ⟨g, 0, none⟩) l.length c1) none (some (.int .i64 ((l.length : Int) - 1))) none).run Tryd.prog W = .ok (.slice (some ⟨g, 0, none⟩) (l.length - 1) c1) W := fun W => by
              have ht : Tryd.prog.underlying 48 = some (.slice (Tryd.prog.elem 48)) := rfl
              have hz : (sizeOf (Tryd.prog.elem 48)).run Tryd.prog W = .ok 2 W := by rfl
              rw [run_slice_h W _ _ _ _ ht .i64 ((l.length : Int) - 1) (by omega) (by omega), hz]
              have : ((l.length : Int) - 1).toNat = l.length - 1 := by omega
              simp [Result.andThen, sliced, Addr.add, this]
            have hsl2 : ∀ W, (Instr.sliceAt 48 (.slice (some ⟨g, 0, none⟩) l.length c1) none (some (.int .i64 ((l.length : Int) - 1))) none).run Tryd.prog W = .ok (.slice (some ⟨g, 0, none⟩) (l.length - 1) c1) W := fun W => (run_sliceAt_slice W _ _ _ _ _ rfl).trans (hsl W)
            clear hlt
            go_wp2_with fail
            refine (HCT.out _ (HI3.out.takeT _)).mono ?_
            rintro e w9 ⟨rfl, hB9⟩
            go_wp2_with fail
            go_ret
            exact ⟨rfl, next hb3 hB9⟩
end Go.Proofs.YteloapholoechaaDoor
