/- For all drawn bytes the law of StartsEarly answers true, and its argument reads as it did.
   Conditions: none. -/
import Derived.Test.YteloapholoechaaDoorLawKit
import Derived.Test.YteloapholoechaaDoorDrawTasks
import Derived.Test.YteloapholoechaaDoorTaskMath
import Derived.Test.YteloapholoechaaDoorStartsE
import Derived.Test.YteloapholoechaaDoorLists
namespace Go.Proofs.YteloapholoechaaDoor
open Go.RowKit Go.ChangeShapes Go.WideShapes Go.ChangeAt Go.Deep

set_option maxHeartbeats 1000000 in
theorem drawStartsEarly_any (A : Option Addr) (c m : Nat) (w : World) (hB : BytesIn w A m) (hm : m ≤ 9223372036854775807) (hc : m ≤ c) (hc2 : c ≤ 9223372036854775807) :
    Calls Tryd.prog 45 #[.slice A m c] w (DrawnTk w) := by
  go_enter Tryd.func45, Tryd.ntmps45
  go_wp2_with fail
  refine (open_any A c m w hB hm hc hc2).mono ?_
  rintro e w1 ⟨rfl, hR1, hb1⟩
  go_wp2_with fail
  refine (l20Tasks_any w.heap.size 0 9 _ hR1 (by omega) (by omega)).mono ?_
  intro e w2 h2
  obtain ⟨l, g, c2, rfl, r⟩ := drawn_of h2 hb1 (Nat.le_refl _)
  have HR := hide r
  clear r h2
  go_wp2_with fail
  refine bodyPost_ret (results_tmp rfl _ _ _) rfl ⟨l, g, c2, rfl, HR.out⟩

set_option maxRecDepth 100000 in
set_option maxHeartbeats 4000000 in
theorem lawStartsEarly_any (A : Option Addr) (c m : Nat) (w : World) (hB : BytesIn w A m) (hc : m ≤ c) (hc2 : c ≤ 9223372036854775807) :
    Calls Tryd.prog 10 #[.slice A m c] w fun e w' => e = .returned (.bool true) ∧ Below w.heap.size w w' := by
  by_cases hlen : (1048576 : Int) < m
  · go_enter Tryd.func10, Tryd.ntmps10
    go_wp2_with fail
    go_ret
    exact ⟨rfl, by go_grown⟩
  · go_enter Tryd.func10, Tryd.ntmps10
    go_wp2_with fail
    refine (drawStartsEarly_any A c m w hB (by omega) hc hc2).mono ?_
    rintro e w1 ⟨l, g, c1, rfl, hI, hl8, hlc, hcm, hle, hb1⟩
    have HI1 := hide hI
    have HP := hide (fun (x : Task) (hx : x ∈ l) => Nat.le_trans (hle x hx) (by omega : 8 ≤ 1048576))
    have hc9 : c1 ≤ 9223372036854775807 := by unfold maxLen at hcm; omega
    have hl' : l.length ≤ 1048576 := by omega
    clear hI hle hcm
    obtain ⟨ss, HSS⟩ : ∃ ss, Hid (startsEarlyL l = ss) := ⟨_, hide rfl⟩
    go_wp2_with fail
    refine (implStartsEarly_any _ _ _ _ HI1.out hl' HP.out).mono ?_
    rintro e w2 ⟨v2, rfl, hS2, hB2⟩
    rw [HSS.out] at hS2
    obtain ⟨A2, d2, rfl, hSI2, -⟩ := hS2.form
    have hb2 := next hb1 hB2
    have HI2 := hide (HI1.out.below hB2)
    have HSI2 := hide hSI2
    clear hB2 HI1 hS2 hSI2
    go_wp2_with fail
    refine (specStartsEarly_any _ _ _ _ HI2.out hl' HP.out).mono ?_
    rintro e w3 ⟨v3, rfl, hS3, hB3⟩
    rw [HSS.out] at hS3
    obtain ⟨A3, d3, rfl, hSI3, -⟩ := hS3.form
    have hb3 := next hb2 hB3
    have HI3 := hide (HI2.out.below hB3)
    have HSI3 := hide (HSI2.out.below hB3)
    have HSJ3 := hide hSI3
    clear hB3 HI2 HSI2 hS3 hSI3
    cases hM : tasksOk l with
    | false =>
      obtain rfl : ss = [] := by rw [← HSS.out]; unfold startsEarlyL; rw [hM]; rfl
      have h0 : ((([] : List Int).length : Int) == 0) = true := rfl
      have HM := hide hM
      clear hM
      go_wp2_with fail
      refine (sameInts_same _ _ _ _ _ _ HSI3.out HSJ3.out (by simp)).mono ?_
      rintro e w4 ⟨rfl, hB4⟩
      have hb4 := next hb3 hB4
      have HI4 := hide (HI3.out.below hB4)
      clear hB4
      go_wp2_with fail
      refine (specTasksValid_any _ _ _ _ HI4.out hl' HP.out).mono ?_
      rintro e w5 ⟨rfl, hB5⟩
      rw [HM.out]
      have hb5 := next hb4 hB5
      go_wp2_with fail
      refine (alive_any _).mono ?_
      rintro e w9 ⟨rfl, hB9⟩
      go_wp2_with fail
      go_ret
      exact ⟨rfl, next hb5 hB9⟩
    | true =>
      have h7 := tasksOk_len hM
      have hok := startsOk_iff.1 (early_ok hM)
      rw [HSS.out] at hok
      have HSL : Hid (ss.length = l.length) := hide hok.2.1
      have hs8 : ss.length ≤ 8 := by rw [HSL.out]; exact hl8
      have HRG := hide hok.2.2.1
      have HOK : Hid (startsOkL l ss = true) := hide (by rw [← HSS.out]; exact early_ok hM)
      have HNO : Hid (∀ k, k < l.length → startsOkL l (ss.set k (ss.getD k 0 - 1)) = false) := hide (fun k hk => by rw [← HSS.out]; exact early_not hM hk)
      have HM := hide hM
      clear hM hok
      go_wp2_with fail
      refine (sameInts_same _ _ _ _ _ _ HSI3.out HSJ3.out (by omega)).mono ?_
      rintro e w4 ⟨rfl, hB4⟩
      have hb4 := next hb3 hB4
      have HI4 := hide (HI3.out.below hB4)
      have HSI4 := hide (HSI3.out.below hB4)
      clear hB4 HI3 HSI3 HSJ3
      go_wp2_with fail
      refine (specTasksValid_any _ _ _ _ HI4.out hl' HP.out).mono ?_
      rintro e w5 ⟨rfl, hB5⟩
      rw [HM.out]
      have hb5 := next hb4 hB5
      have HI5 := hide (HI4.out.below hB5)
      have HSI5 := hide (HSI4.out.below hB5)
      clear hB5 HI4 HSI4
      have hz5 := hb5.size
      go_wp2_with fail
      go_loopw [5] (fun iv wr => ∃ k : Nat, k ≤ ss.length ∧ iv = .int .i64 k ∧ Below w5.heap.size w5 wr) (fun iv _ => ss.length - (intOf iv).toNat)
      case atStart => exact ⟨0, Nat.zero_le _, rfl, Below.refl _ _⟩
      case round =>
        obtain ⟨k, hk, rfl, hbr⟩ := hrel
        have HIr := hide (HI5.out.below hbr)
        have HSr := hide (HSI5.out.below hbr)
        have hzr := hbr.size
        by_cases hkl : k < ss.length
        · have hd : decide ((k : Int) < ss.length) = true := decide_eq_true (by omega)
          obtain ⟨x, hx⟩ : ∃ x, ss[k]? = some x := ⟨_, List.getElem?_eq_getElem hkl⟩
          have hxr := HRG.out x (List.mem_of_getElem? hx)
          have hxd : ss.getD k 0 = x := getDT_at hx
          have HN2 : Hid (startsOkL l (ss.set k (x - 1)) = false) := hide (by rw [← hxd]; exact HNO.out k (by rw [← HSL.out]; exact hkl))
          obtain ⟨ab, off, rfl, hbl, hc1⟩ := HSr.out k x hx
          have HOE : Hid (IntSl (wr.alloc (.cells #[] 3)) wr.heap.size (.slice (some ⟨wr.heap.size, 0, none⟩) 0 0) []) := hide (World.ownsRow_lit wr #[] 0 (Nat.le_refl _) (by unfold maxLen; omega) rfl)
          have HAE := hide (HSr.out.below (w' := wr.alloc (.cells #[] 3)) (by go_grown))
          have hk0 : (0 : Int) ≤ k := by omega
          have hk1 : (k : Int) < ss.length := by omega
          have hx0 := hxr.1
          have hx1 := hxr.2
          clear hxd hxr
          go_wp2_with (at_builtin; refine wpList_wantedI (by rfl) (wp_spread_int _ _ (by rfl) wr.heap.size (.slice (some ⟨wr.heap.size, 0, none⟩) 0 0) [] (by rfl) HOE.out (by simp) ⟨ab, off, none⟩ ss.length _ ss rfl (by rfl) HAE.out (by simp; omega) (by simp) ?_); intro g6 cap6 w6 hown6 hgrow6; have HO6 : Hid (IntSl w6 wr.heap.size (.slice (some ⟨g6, 0, none⟩) ss.length cap6) ss) := hide (by have h := hown6; rw [List.length_nil, Nat.zero_add] at h; exact h); have hb6 : Below wr.heap.size wr w6 := ((Below.refl _ _).alloc (Nat.le_refl _) _).grown hgrow6 (by simp) (fun j hj => by have hj : some wr.heap.size = some j := hj; injection hj with hj; omega); obtain ⟨hl6, hc6, -, hlo6, hg6⟩ := IntSl.capI HO6.out; have hc9 := IntSl.cellAt HO6.out hx; have hf9 := IntSl.frozenAt HO6.out k; simp only [List.length_nil, Nat.zero_add]; clear hown6 hgrow6)
          have HST := hide (IntSl.store HO6.out k (x - 1))
          have hgs := IntSl.grownSet HO6.out k (x - 1)
          have hb7 : Below wr.heap.size wr (w6.setCell ⟨g6, k, none⟩ (.int .i64 (x - 1))) := hb6.grown hgs hb6.size (fun j hj => by injection hj with hj; omega)
          have HI7 := hide (HIr.out.below hb7)
          have HM7 := hide (IntSl.ints HST.out)
          have HCX := hide (fun W hA hS => implStartsOk_any (some ⟨g, 0, none⟩) (some ⟨g6, 0, none⟩) c1 cap6 l (ss.set k (x - 1)) W hA hl' HP.out hS (by rw [List.length_set]; omega))
          rw [HN2.out, List.length_set] at HCX
          clear hgs HAE HOE
          go_wp2_with fail
          refine (HCX.out _ HI7.out HM7.out).mono ?_
          rintro e w8 ⟨rfl, hB8⟩
          have hb8 := next (next hbr hb7) hB8
          clear hB8
          go_wp2_with fail
          go_roundw
          case rel => exact ⟨k + 1, hkl, by go_num, hb8⟩
          case measure => simp [intOf]; omega
        · have hd : decide ((k : Int) < ss.length) = false := decide_eq_false (by omega)
          go_wp2_with fail
          refine (implStartsOk_any _ _ _ _ _ _ _ HIr.out hl' HP.out HSr.out (by omega)).mono ?_
          rintro e w9 ⟨rfl, hB9⟩
          rw [HOK.out]
          go_wp2_with fail
          go_ret
          exact ⟨rfl, next (next hb5 hbr) hB9⟩
end Go.Proofs.YteloapholoechaaDoor
