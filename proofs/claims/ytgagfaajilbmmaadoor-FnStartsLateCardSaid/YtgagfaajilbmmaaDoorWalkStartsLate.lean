/- For all drawn bytes the law of StartsLate answers true, and its argument reads as it did.
   Conditions: none. -/
import Derived.Test.YtgagfaajilbmmaaDoorLawKit
import Derived.Test.YtgagfaajilbmmaaDoorDrawTasks
import Derived.Test.YtgagfaajilbmmaaDoorTaskMath
import Derived.Test.YtgagfaajilbmmaaDoorLate
import Derived.Test.YtgagfaajilbmmaaDoorLists
namespace Go.Proofs.YtgagfaajilbmmaaDoor
open Go.RowKit Go.ChangeShapes Go.WideShapes Go.ChangeAt Go.Deep

set_option maxHeartbeats 1000000 in
theorem drawStartsLate_any (A : Option Addr) (c m : Nat) (w : World) (hB : BytesIn w A m) (hm : m ≤ 9223372036854775807) (hc : m ≤ c) (hc2 : c ≤ 9223372036854775807) :
    Calls Tryd.prog 26 #[.slice A m c] w (DrawnTk w) := by
  go_enter Tryd.func26, Tryd.ntmps26
  go_wp2_with fail
  refine (open_any A c m w hB hm hc hc2).mono ?_
  rintro e w1 ⟨rfl, hR1, hb1⟩
  go_wp2_with fail
  refine (l20Tasks_any w.heap.size 0 9 _ hR1 (by omega) (by omega)).mono ?_
  intro e w2 h2
  obtain ⟨l, g, c2, rfl, r⟩ := drawn_of h2 hb1 (Nat.le_refl _)
  have HR := hide r
  clear r h2
  go_wp2_with fail
  refine bodyPost_ret (results_tmp rfl _ _ _) rfl ⟨l, g, c2, rfl, HR.out⟩

set_option maxRecDepth 100000 in
set_option maxHeartbeats 4000000 in
theorem lawStartsLate_any (A : Option Addr) (c m : Nat) (w : World) (hB : BytesIn w A m) (hc : m ≤ c) (hc2 : c ≤ 9223372036854775807) :
    Calls Tryd.prog 6 #[.slice A m c] w fun e w' => e = .returned (.bool true) ∧ Below w.heap.size w w' := by
  by_cases hlen : (1048576 : Int) < m
  · go_enter Tryd.func6, Tryd.ntmps6
    go_wp2_with fail
    go_ret
    exact ⟨rfl, by go_grown⟩
  · go_enter Tryd.func6, Tryd.ntmps6
    go_wp2_with fail
    refine (drawStartsLate_any A c m w hB (by omega) hc hc2).mono ?_
    rintro e w1 ⟨l, g, c1, rfl, hI, hl8, hlc, hcm, hle, hb1⟩
    have HI1 := hide hI
    have HP := hide (fun (x : Task) (hx : x ∈ l) => Nat.le_trans (hle x hx) (by omega : 8 ≤ 1048576))
    have hc9 : c1 ≤ 9223372036854775807 := by unfold maxLen at hcm; omega
    have hl' : l.length ≤ 1048576 := by omega
    clear hI hle hcm
    obtain ⟨ss, HSS⟩ : ∃ ss, Hid (startsLateL l = ss) := ⟨_, hide rfl⟩
    go_wp2_with fail
    refine (implStartsLate_any _ _ _ _ HI1.out hl' HP.out).mono ?_
    rintro e w2 ⟨v2, rfl, hS2, hB2⟩
    rw [HSS.out] at hS2
    obtain ⟨A2, d2, rfl, hSI2, -⟩ := hS2.form
    have hb2 := next hb1 hB2
    have HI2 := hide (HI1.out.below hB2)
    have HSI2 := hide hSI2
    clear hB2 HI1 hS2 hSI2
    go_wp2_with fail
    refine (specStartsLate_any _ _ _ _ HI2.out hl' HP.out).mono ?_
    rintro e w3 ⟨v3, rfl, hS3, hB3⟩
    rw [HSS.out] at hS3
    obtain ⟨A3, d3, rfl, hSI3, -⟩ := hS3.form
    have hb3 := next hb2 hB3
    have HI3 := hide (HI2.out.below hB3)
    have HSI3 := hide (HSI2.out.below hB3)
    have HSJ3 := hide hSI3
    clear hB3 HI2 HSI2 hS3 hSI3
    cases hM : tasksOk l with
    | false =>
      obtain rfl : ss = [] := by rw [← HSS.out]; exact late_no hM
      have h0 : ((([] : List Int).length : Int) == 0) = true := rfl
      have HM := hide hM
      clear hM
      go_wp2_with fail
      refine (sameInts_same _ _ _ _ _ _ HSI3.out HSJ3.out (by simp)).mono ?_
      rintro e w4 ⟨rfl, hB4⟩
      have hb4 := next hb3 hB4
      have HI4 := hide (HI3.out.below hB4)
      clear hB4
      go_wp2_with fail
      refine (specTasksValid_any _ _ _ _ HI4.out hl' HP.out).mono ?_
      rintro e w5 ⟨rfl, hB5⟩
      rw [HM.out]
      have hb5 := next hb4 hB5
      go_wp2_with fail
      refine (alive_any _).mono ?_
      rintro e w9 ⟨rfl, hB9⟩
      go_wp2_with fail
      go_ret
      exact ⟨rfl, next hb5 hB9⟩
    | true =>
      have h7 := tasksOk_len hM
      obtain ⟨es, HES⟩ : ∃ es, Hid (startsEarlyL l = es) := ⟨_, hide rfl⟩
      have HSL : Hid (ss.length = l.length) := hide (by rw [← HSS.out]; exact late_len hM)
      have HEL : Hid (es.length = l.length) := hide (by rw [← HES.out]; exact startsEarlyL_len hM)
      have hs8 : ss.length ≤ 8 := by rw [HSL.out]; exact hl8
      have HRG := hide (late_rng hM)
      rw [HSS.out] at HRG
      have HRE := hide (startsEarlyL_ok hM)
      rw [HES.out] at HRE
      have HLE := hide (early_late hM)
      rw [HSS.out, HES.out] at HLE
      have HOK : Hid (startsOkL l ss = true) := hide (by rw [← HSS.out]; exact late_valid hM)
      have HSM : Hid (0 < l.length → ∃ i, i < l.length ∧ ss.getD i 0 = es.getD i 0) := hide (fun h => by rw [← HSS.out, ← HES.out]; exact late_some hM h)
      have HM := hide hM
      clear hM
      go_wp2_with fail
      refine (sameInts_same _ _ _ _ _ _ HSI3.out HSJ3.out (by omega)).mono ?_
      rintro e w4 ⟨rfl, hB4⟩
      have hb4 := next hb3 hB4
      have HI4 := hide (HI3.out.below hB4)
      have HSI4 := hide (HSI3.out.below hB4)
      clear hB4 HI3 HSI3 HSJ3
      go_wp2_with fail
      refine (specTasksValid_any _ _ _ _ HI4.out hl' HP.out).mono ?_
      rintro e w5 ⟨rfl, hB5⟩
      rw [HM.out]
      have hb5 := next hb4 hB5
      have HI5 := hide (HI4.out.below hB5)
      have HSI5 := hide (HSI4.out.below hB5)
      clear hB5 HI4 HSI4
      go_wp2_with fail
      refine (implStartsEarly_any _ _ _ _ HI5.out hl' HP.out).mono ?_
      rintro e w6 ⟨v6, rfl, hS6, hB6⟩
      rw [HES.out] at hS6
      obtain ⟨A6, d6, rfl, hSI6, -⟩ := hS6.form
      have hb6 := next hb5 hB6
      have HI6 := hide (HI5.out.below hB6)
      have HSI6 := hide (HSI5.out.below hB6)
      have HE6 := hide hSI6
      have hel : (es.length : Int) = ss.length := by rw [HEL.out, HSL.out]
      have hel2 : ((es.length : Int) != ss.length) = false := by simp [hel]
      clear hB6 HI5 HSI5 hS6 hSI6
      go_wp2_with fail
      go_loopw [6, 7] (fun sv iv wr => ∃ (k : Nat) (b : Bool), k ≤ ss.length ∧ iv = .int .i64 k ∧ sv = .bool b ∧ Hid (b = true ↔ l.length = 0 ∨ ∃ i, i < k ∧ ss.getD i 0 = es.getD i 0) ∧ Below w6.heap.size w6 wr) (fun _ iv _ => ss.length - (intOf iv).toNat)
      case atStart => exact ⟨0, _, Nat.zero_le _, rfl, rfl, hide (by simp), Below.refl _ _⟩
      case round =>
        obtain ⟨k, b, hk, rfl, rfl, HB, hbr⟩ := hrel
        have HIr := hide (HI6.out.below hbr)
        have HSr := hide (HSI6.out.below hbr)
        have HEr := hide (HE6.out.below hbr)
        by_cases hkl : k < ss.length
        · obtain ⟨x, hx⟩ : ∃ x, ss[k]? = some x := ⟨_, List.getElem?_eq_getElem hkl⟩
          obtain ⟨y, hy⟩ : ∃ y, es[k]? = some y := ⟨_, List.getElem?_eq_getElem (by rw [HEL.out, ← HSL.out]; exact hkl)⟩
          have hxr := HRG.out x (List.mem_of_getElem? hx)
          have hyr := HRE.out y (List.mem_of_getElem? hy)
          have hxd : ss.getD k 0 = x := getDT_at hx
          have hyd : es.getD k 0 = y := getDT_at hy
          have hxy : y ≤ x := by rw [← hxd, ← hyd]; exact HLE.out k (by rw [← HSL.out]; exact hkl)
          have HB2 : Hid ((if b = true then true else x == y) = true ↔ l.length = 0 ∨ ∃ i, i < k + 1 ∧ ss.getD i 0 = es.getD i 0) := hide (by
            have hb := HB.out
            constructor
            · intro h
              cases b with
              | true =>
                rcases hb.1 rfl with h | ⟨i, hi, he⟩
                · exact .inl h
                · exact .inr ⟨i, by omega, he⟩
              | false => exact .inr ⟨k, by omega, by rw [hxd, hyd]; simpa using h⟩
            · intro h
              cases b with
              | true => rfl
              | false =>
                rcases h with h | ⟨i, hi, he⟩
                · exact absurd (hb.2 (.inl h)) (by decide)
                · by_cases e : i = k
                  · subst e
                    rw [hxd, hyd] at he
                    simp [he]
                  · exact absurd (hb.2 (.inr ⟨i, by omega, he⟩)) (by decide))
          obtain ⟨ab, off, rfl, hbl, hc1⟩ := HSr.out k x hx
          obtain ⟨ab2, off2, rfl, hbl2, hc2⟩ := HEr.out k y hy
          have hd1 : decide (x < y) = false := decide_eq_false (by omega)
          have hk0 : (0 : Int) ≤ k := by omega
          have hk1 : (k : Int) < ss.length := by omega
          have hk2 : (k : Int) < es.length := by omega
          clear hxd hyd
          cases b with
          | true =>
            go_wp2_with fail
            go_quiet (fail)
            go_wp2_with fail
            go_quiet (fail)
            go_wp2_with fail
            go_roundw
            case rel => exact ⟨k + 1, true, hkl, by go_num, rfl, HB2, below_drewN hbr _⟩
            case measure => simp [intOf]; omega
          | false =>
            go_wp2_with fail
            go_quiet (fail)
            go_wp2_with fail
            go_quiet (fail)
            go_wp2_with fail
            go_roundw
            case rel => exact ⟨k + 1, x == y, hkl, by go_num, rfl, HB2, below_drewN hbr _⟩
            case measure => simp [intOf]; omega
        · obtain rfl : k = ss.length := by omega
          obtain rfl : b = true := HB.out.2 (by
            by_cases h0 : l.length = 0
            · exact .inl h0
            · obtain ⟨i, hi, he⟩ := HSM.out (by omega)
              exact .inr ⟨i, by rw [HSL.out]; exact hi, he⟩)
          go_wp2_with fail
          refine (implStartsOk_any _ _ _ _ _ _ _ HIr.out hl' HP.out HSr.out (by omega)).mono ?_
          rintro e w9 ⟨rfl, hB9⟩
          rw [HOK.out]
          go_wp2_with fail
          go_ret
          exact ⟨rfl, next (next hb6 hbr) hB9⟩
end Go.Proofs.YtgagfaajilbmmaaDoor
