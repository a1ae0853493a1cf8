/- For all drawn bytes the law of LongestWay answers true, and its argument reads as it did.
   Conditions: none. -/
import Derived.Test.YtgagfaajilbmmaaDoorLawKit
import Derived.Test.YtgagfaajilbmmaaDoorDrawTasks
import Derived.Test.YtgagfaajilbmmaaDoorTaskMath
import Derived.Test.YtgagfaajilbmmaaDoorWay
import Derived.Test.YtgagfaajilbmmaaDoorLists
namespace Go.Proofs.YtgagfaajilbmmaaDoor
open Go.RowKit Go.ChangeShapes Go.WideShapes Go.ChangeAt Go.Deep

set_option maxHeartbeats 1000000 in
theorem drawLongestWay_any (A : Option Addr) (c m : Nat) (w : World) (hB : BytesIn w A m) (hm : m ≤ 9223372036854775807) (hc : m ≤ c) (hc2 : c ≤ 9223372036854775807) :
    Calls Tryd.prog 30 #[.slice A m c] w (DrawnTk w) := by
  go_enter Tryd.func30, Tryd.ntmps30
  go_wp2_with fail
  refine (open_any A c m w hB hm hc hc2).mono ?_
  rintro e w1 ⟨rfl, hR1, hb1⟩
  go_wp2_with fail
  refine (l20Tasks_any w.heap.size 0 9 _ hR1 (by omega) (by omega)).mono ?_
  intro e w2 h2
  obtain ⟨l, g, c2, rfl, r⟩ := drawn_of h2 hb1 (Nat.le_refl _)
  have HR := hide r
  clear r h2
  go_wp2_with fail
  refine bodyPost_ret (results_tmp rfl _ _ _) rfl ⟨l, g, c2, rfl, HR.out⟩

theorem longestL_len {l : List Task} (h : tasksOk l = true) : (longestL l).length ≤ 8 := by
  unfold longestL
  have := tasksOk_len h
  rw [if_pos h]
  split
  · have := wayGo_len l l.length ‹_› [(‹Nat› : Int)]
    simp only [List.length_cons, List.length_nil] at this
    omega
  · simp
theorem hasInt_isW (A : Option Addr) (c : Nat) (xs : List Int) (n : Int) (b : Bool) (H : Hid (xs.any (· == n) = b)) (w : World) (h1 : IntsAt w A xs) (hl : xs.length ≤ 1048576) :
    Calls Tryd.prog 34 #[.slice A xs.length c, .int .i64 n] w fun e w' => e = .returned (.bool b) ∧ w' = w := by
  have := hasInt_any A c xs n w h1 hl
  rwa [H.out] at this
theorem sum_takeW (l : List Task) (ss : List Int) (k : Nat) (x : Int) (hx : ss[k]? = some x) : sumL ((ss.take (k + 1)).map (fun i => spanAt l i.toNat)) = sumL ((ss.take k).map (fun i => spanAt l i.toNat)) + spanAt l x.toNat := by
  have hk := (List.getElem?_eq_some_iff.1 hx).1
  rw [List.take_add_one, hx, Option.toList_some, List.map_append, sumT_app]
  simp [sumL]
theorem way_st {l : List Task} (h : tasksOk l = true) : ∀ k, 0 ≤ stA l k ∧ stA l k ≤ 210 := fun k => stA_rng h k
set_option maxRecDepth 100000 in
set_option maxHeartbeats 4000000 in
theorem lawLongestWay_any (A : Option Addr) (c m : Nat) (w : World) (hB : BytesIn w A m) (hc : m ≤ c) (hc2 : c ≤ 9223372036854775807) :
    Calls Tryd.prog 7 #[.slice A m c] w fun e w' => e = .returned (.bool true) ∧ Below w.heap.size w w' := by
  by_cases hlen : (1048576 : Int) < m
  · go_enter Tryd.func7, Tryd.ntmps7
    go_wp2_with fail
    go_ret
    exact ⟨rfl, by go_grown⟩
  · go_enter Tryd.func7, Tryd.ntmps7
    go_wp2_with fail
    refine (drawLongestWay_any A c m w hB (by omega) hc hc2).mono ?_
    rintro e w1 ⟨l, g, c1, rfl, hI, hl8, hlc, hcm, hle, hb1⟩
    have HI1 := hide hI
    have HP := hide (fun (x : Task) (hx : x ∈ l) => Nat.le_trans (hle x hx) (by omega : 8 ≤ 1048576))
    have hc9 : c1 ≤ 9223372036854775807 := by unfold maxLen at hcm; omega
    have hl' : l.length ≤ 1048576 := by omega
    clear hI hle hcm
    obtain ⟨ss, HSS⟩ : ∃ ss, Hid (longestL l = ss) := ⟨_, hide rfl⟩
    go_wp2_with fail
    refine (implLongestWay_any _ _ _ _ HI1.out hl' HP.out).mono ?_
    rintro e w2 ⟨v2, rfl, hS2, hB2⟩
    rw [HSS.out] at hS2
    obtain ⟨A2, d2, rfl, hSI2, -⟩ := hS2.form
    have hb2 := next hb1 hB2
    have HI2 := hide (HI1.out.below hB2)
    have HSI2 := hide hSI2
    clear hB2 HI1 hS2 hSI2
    go_wp2_with fail
    refine (specLongestWay_any _ _ _ _ HI2.out hl' HP.out).mono ?_
    rintro e w3 ⟨v3, rfl, hS3, hB3⟩
    rw [HSS.out] at hS3
    obtain ⟨A3, d3, rfl, hSI3, -⟩ := hS3.form
    have hb3 := next hb2 hB3
    have HI3 := hide (HI2.out.below hB3)
    have HSI3 := hide (HSI2.out.below hB3)
    have HSJ3 := hide hSI3
    clear hB3 HI2 HSI2 hS3 hSI3
    by_cases hw0 : 0 < l.length ∧ tasksOk l = true
    · obtain ⟨hl0, hM⟩ := hw0
      have h7 := tasksOk_len hM
      obtain ⟨hs0, k1, hok, hk10⟩ := longest_ok hM hl0
      have HK0 := hide hk10
      clear hk10
      obtain ⟨es, HES⟩ : ∃ es, Hid (startsEarlyL l = es) := ⟨_, hide rfl⟩
      obtain ⟨ls, HLS⟩ : ∃ ls, Hid (startsLateL l = ls) := ⟨_, hide rfl⟩
      obtain ⟨en, HEN⟩ : ∃ en, Hid (tasksEndL l = en) := ⟨_, hide rfl⟩
      have hsm := longestL_le l
      have hs9 := longestL_len hM
      rw [HSS.out] at hs0 hok hsm hs9
      have HOK := hide hok
      have HEL : Hid (es.length = l.length) := hide (by rw [← HES.out]; exact startsEarlyL_len hM)
      have HLL : Hid (ls.length = l.length) := hide (by rw [← HLS.out]; exact late_len hM)
      have HSP := hide (tasks_span hM)
      have HRE := hide (startsEarlyL_ok hM)
      rw [HES.out] at HRE
      have HST := hide (way_st hM)
      have HM := hide hM
      have hlb : ((ss.length : Int) == 0) = false := beq_false_of_ne (by omega)
      clear hM hok
      go_wp2_with fail
      refine (sameInts_same _ _ _ _ _ _ HSI3.out HSJ3.out hsm).mono ?_
      rintro e w4 ⟨rfl, hB4⟩
      have hb4 := next hb3 hB4
      have HI4 := hide (HI3.out.below hB4)
      have HSI4 := hide (HSI3.out.below hB4)
      clear hB4 HI3 HSI3 HSJ3
      go_wp2_with fail
      refine (implStartsEarly_any _ _ _ _ HI4.out hl' HP.out).mono ?_
      rintro e w5 ⟨v5, rfl, hS5, hB5⟩
      rw [HES.out] at hS5
      obtain ⟨A5, d5, rfl, hSI5, -⟩ := hS5.form
      have hb5 := next hb4 hB5
      have HI5 := hide (HI4.out.below hB5)
      have HSI5 := hide (HSI4.out.below hB5)
      have HE5 := hide hSI5
      clear hB5 HI4 HSI4 hS5 hSI5
      go_wp2_with fail
      refine (implStartsLate_any _ _ _ _ HI5.out hl' HP.out).mono ?_
      rintro e w6 ⟨v6, rfl, hS6, hB6⟩
      rw [HLS.out] at hS6
      obtain ⟨A6, d6, rfl, hSI6, -⟩ := hS6.form
      have hb6 := next hb5 hB6
      have HI6 := hide (HI5.out.below hB6)
      have HSI6 := hide (HSI5.out.below hB6)
      have HE6 := hide (HE5.out.below hB6)
      have HL6 := hide hSI6
      clear hB6 HI5 HSI5 HE5 hS6 hSI6
      have hel : (es.length : Int) = l.length := by rw [HEL.out]
      have hll : (ls.length : Int) = l.length := by rw [HLL.out]
      have hne1 : ((es.length : Int) != l.length) = false := by simp [hel]
      have hne2 : ((ls.length : Int) != l.length) = false := by simp [hll]
      go_wp2_with fail
      have hz6 := hb6.size
      go_loopw [7, 8] (fun sv iv wr => ∃ (k : Nat) (s : Int), k ≤ ss.length ∧ iv = .int .i64 k ∧ sv = .int .i64 s ∧ 0 ≤ s ∧ s ≤ 30 * k ∧ Hid (s = sumL ((ss.take k).map (fun i => spanAt l i.toNat))) ∧ Below w6.heap.size w6 wr) (fun _ iv _ => ss.length - (intOf iv).toNat)
      case atStart => exact ⟨0, 0, Nat.zero_le _, rfl, rfl, by omega, by omega, hide rfl, Below.refl _ _⟩
      case round =>
        obtain ⟨k, s, hk, rfl, rfl, hsl, hsu, HSU, hbr⟩ := hrel
        have HIr := hide (HI6.out.below hbr)
        have HSr := hide (HSI6.out.below hbr)
        have HEr := hide (HE6.out.below hbr)
        have HLr := hide (HL6.out.below hbr)
        by_cases hkl : k < ss.length
        · have hk0 : (0 : Int) ≤ k := by omega
          have hk1 : (k : Int) < ss.length := by omega
          obtain ⟨x, hx⟩ : ∃ x, ss[k]? = some x := ⟨_, List.getElem?_eq_getElem hkl⟩
          have hxr := HOK.out.rng x (List.mem_of_getElem? hx)
          have hxe := HOK.out.eq x (List.mem_of_getElem? hx)
          obtain ⟨p, rfl, hpl⟩ : ∃ p : Nat, x = p ∧ p < l.length := ⟨x.toNat, by omega, by omega⟩
          rw [Int.toNat_natCast] at hxe
          obtain ⟨t, ht⟩ : ∃ t, l[p]? = some t := ⟨_, List.getElem?_eq_getElem hpl⟩
          obtain ⟨y, hy⟩ : ∃ y, es[p]? = some y := ⟨_, List.getElem?_eq_getElem (by rw [HEL.out]; exact hpl)⟩
          have hz : ls[p]? = some y := by
            have hzl : p < ls.length := by rw [HLL.out]; exact hpl
            have e1 := List.getElem?_eq_getElem hzl
            rw [HLS.out, getDT_at e1, stA, HES.out, getDT_at hy] at hxe
            rw [e1, hxe]
          obtain ⟨sp, hsp⟩ : ∃ sp, t.span = sp := ⟨_, rfl⟩
          have htr := HSP.out t (List.mem_of_getElem? ht)
          rw [hsp] at htr
          have hsp0 := htr.1
          have hsp1 := htr.2
          have HS2 : Hid (s + sp = sumL ((ss.take (k + 1)).map (fun i => spanAt l i.toNat))) := hide (by rw [sum_takeW l ss k p hx, ← HSU.out, Int.toNat_natCast, spanAt, getDT_at ht, hsp])
          have hp0 : (0 : Int) ≤ p := by omega
          have hp1 : (p : Int) < l.length := by omega
          have hp2 : (p : Int) < es.length := by rw [hel]; exact hp1
          have hp3 : (p : Int) < ls.length := by rw [hll]; exact hp1
          have hpt : t.after.length ≤ 1048576 := HP.out t (List.mem_of_getElem? ht)
          obtain ⟨ab, off, rfl, hbl, hc1⟩ := HSr.out k p hx
          obtain ⟨ab2, off2, A7, c7, he, hbl2, hr1, hr2, hI7⟩ := HIr.out p t ht
          injection he with he
          injection he with he1 he2
          subst he1 he2
          rw [Nat.zero_add] at hr1 hr2
          rw [hsp] at hr1
          obtain ⟨ab3, off3, rfl, hbl3, hc3⟩ := HEr.out p y hy
          obtain ⟨ab4, off4, rfl, hbl4, hc4⟩ := HLr.out p y hz
          have hyy : (y != y) = false := by simp
          have HPR := hide HOK.out.prec
          clear htr hxr hxe hy hz
          by_cases hkz : k = 0
          · subst hkz
            have hd : decide ((0 : Int) < ((0 : Nat) : Int)) = false := rfl
            rw [Nat.add_zero] at hc1
            clear hx ht hsp hI7
            go_wp2_with fail
            go_quiet (fail)
            go_wp2_with fail
            go_roundw
            case rel => exact ⟨1, s + sp, hkl, by go_num, by go_num, by omega, by omega, HS2, below_drewN hbr _⟩
            case measure => simp [intOf]; omega
          · obtain ⟨j, HJ⟩ : ∃ j, Hid (j + 1 = k) := ⟨k - 1, hide (by omega)⟩
            have hkp : 0 < k := by omega
            have hkq : (0 : Int) < (k : Int) := by omega
            obtain ⟨z, hz⟩ : ∃ z, ss[j]? = some z := ⟨_, List.getElem?_eq_getElem (by have := HJ.out; omega)⟩
            have hza := HPR.out j z p hz (by rw [HJ.out]; exact hx)
            rw [Int.toNat_natCast, getDT_at ht] at hza
            have HHI : Hid (t.after.any (· == z) = true) := hide (List.any_eq_true.2 ⟨z, hza, by simp⟩)
            obtain ⟨ab5, off5, he5, hbl5, hc5⟩ := HSr.out j z hz
            injection he5 with he5
            injection he5 with he51 he52
            subst he51 he52
            have hwj : IntKind.i64.wrap ((k : Int) - 1) = (j : Int) := by rw [show (k : Int) - 1 = (j : Int) from by have := HJ.out; omega]; exact IntWalk.i64_in _ (by have := HJ.out; omega)
            have hj0 : (0 : Int) ≤ j := by omega
            have hj1 : (j : Int) < ss.length := by have := HJ.out; omega
            have HHC := hide (fun W (hW : IntsAt W A7 t.after) => hasInt_isW A7 c7 t.after z true HHI W hW hpt)
            have HI7 := hide hI7
            clear hx ht hsp hI7 hz hza hkz
            go_wp2_with fail
            go_quiet ((go_at_call 34; exact Calls.quiet_of_same (HHC.out _ HI7.out)))
            go_wp2_with fail
            go_roundw
            case rel => exact ⟨k + 1, s + sp, hkl, by go_num, by go_num, by omega, by omega, HS2, below_drewN hbr _⟩
            case measure => simp [intOf]; omega
        · obtain rfl : k = ss.length := by omega
          have hse : s = en - stA l k1 := by
            have := HOK.out.sum
            rw [HSU.out, List.take_length, this, HEN.out]
          have hst : stA l k1 = 0 := HK0.out
          obtain rfl : s = en := by omega
          have hss2 : (s == s) = true := by simp
          have hbq := next hb6 hbr
          clear hst hse
          go_wp2_with fail
          refine (implTasksEnd_any _ _ _ _ HIr.out hl' HP.out).mono ?_
          rintro e w9 ⟨rfl, hB9⟩
          rw [HEN.out]
          go_wp2_with fail
          go_ret
          exact ⟨rfl, next hbq hB9⟩
    · have hss : ss = [] := by
        rw [← HSS.out]
        by_cases h0 : l.length = 0
        · exact way_none h0
        · exact way_no (by
            cases e : tasksOk l with
            | false => rfl
            | true => exact absurd ⟨by omega, e⟩ hw0)
      subst hss
      have h0 : ((([] : List Int).length : Int) == 0) = true := rfl
      go_wp2_with fail
      refine (sameInts_same _ _ _ _ _ _ HSI3.out HSJ3.out (by simp)).mono ?_
      rintro e w4 ⟨rfl, hB4⟩
      have hb4 := next hb3 hB4
      have HI4 := hide (HI3.out.below hB4)
      clear hB4
      by_cases hl0 : l.length = 0
      · have hlb : ((l.length : Int) == 0) = true := by simp [hl0]
        clear hw0 hl0
        go_wp2_with fail
        refine (alive_any _).mono ?_
        rintro e w9 ⟨rfl, hB9⟩
        go_wp2_with fail
        go_ret
        exact ⟨rfl, next hb4 hB9⟩
      · have hM : tasksOk l = false := by
          cases e : tasksOk l with
          | false => rfl
          | true => exact absurd ⟨by omega, e⟩ hw0
        have HM := hide hM
        have hlb : ((l.length : Int) == 0) = false := beq_false_of_ne (by omega)
        clear hw0 hl0 hM
        go_wp2_with fail
        refine (implTasksValid_any _ _ _ _ HI4.out hl' HP.out).mono ?_
        rintro e w5 ⟨rfl, hB5⟩
        rw [HM.out]
        have hb5 := next hb4 hB5
        go_wp2_with fail
        refine (alive_any _).mono ?_
        rintro e w9 ⟨rfl, hB9⟩
        go_wp2_with fail
        go_ret
        exact ⟨rfl, next hb5 hB9⟩
end Go.Proofs.YtgagfaajilbmmaaDoor
