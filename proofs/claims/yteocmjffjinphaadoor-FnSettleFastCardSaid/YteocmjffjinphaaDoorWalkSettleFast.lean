/- For all drawn bytes the law of SettleFast answers true, and its argument reads as it did.
   Conditions: none. -/
import Derived.Test.YteocmjffjinphaaDoorLawKit
import Derived.Test.YteocmjffjinphaaDoorDrawOwed
import Derived.Test.YteocmjffjinphaaDoorFast
import Derived.Test.YteocmjffjinphaaDoorFastMath2
namespace Go.Proofs.YteocmjffjinphaaDoor
open Go.RowKit Go.ChangeShapes Go.WideShapes Go.ChangeAt

set_option maxHeartbeats 1000000 in
theorem samePays_same (A A' : Option Addr) (c c' : Nat) (ls : List Pay) (w : World) (h1 : PaysAt w A ls) (h2 : PaysAt w A' ls) (hl : ls.length ≤ 1048576) :
    Calls Tryd.prog 54 #[.slice A ls.length c, .slice A' ls.length c'] w fun e w' => e = .returned (.bool true) ∧ Below w.heap.size w w' := by
  have he : ((ls.length : Int) != ls.length) = false := by simp
  go_enter Tryd.func54, Tryd.ntmps54
  go_wp2_with fail
  go_loopw [5] (fun i wr => ∃ k : Nat, k ≤ ls.length ∧ i = .int .i64 k ∧ Below w.heap.size w wr) (fun i _ => ls.length - (intOf i).toNat)
  case atStart => exact ⟨0, Nat.zero_le _, rfl, Below.refl _ _⟩
  case round =>
    obtain ⟨k, hk, rfl, hb⟩ := hrel
    by_cases hlt : k < ls.length
    · obtain ⟨b, off, rfl, hbl, hc1, hc2, hc3⟩ := (h1.below hb) k ls[k] (List.getElem?_eq_getElem hlt)
      obtain ⟨b', off', rfl, hbl', hc1', hc2', hc3'⟩ := (h2.below hb) k ls[k] (List.getElem?_eq_getElem hlt)
      generalize ls[k] = p at *
      have hz : (0 : Int) ≤ k := by omega
      have hz2 : (k : Int) < ls.length := by omega
      go_wp2_with fail
      go_quiet (fail)
      go_wp2_with fail
      go_roundw
      case rel => exact ⟨k + 1, hlt, by go_num, below_drewN hb _⟩
      case measure => simp [intOf]; omega
    · have hz2 : ¬ (k : Int) < ls.length := by omega
      go_wp2_with fail
      go_ret
      exact ⟨rfl, by go_grown⟩

set_option maxHeartbeats 1000000 in
theorem drawSettleFast_any (A : Option Addr) (c m : Nat) (w : World) (hB : BytesIn w A m) (hm : m ≤ 9223372036854775807) (hc : m ≤ c) (hc2 : c ≤ 9223372036854775807) :
    Calls Tryd.prog 52 #[.slice A m c] w (DrawnIG 100000 8 w) := by
  go_enter Tryd.func52, Tryd.ntmps52
  go_wp2_with fail
  refine (open_any A c m w hB hm hc hc2).mono ?_
  rintro e w1 ⟨rfl, hR1, hb1⟩
  have hz1 := hb1.size
  go_wp2_with fail
  refine (l20Owed_any w.heap.size 0 9 _ hR1 (by omega) (by omega)).mono ?_
  rintro e w2 ⟨ls, g, c2, rfl, hS2, hl, hR2, hg2, hX⟩
  have hb2 : Below w.heap.size w w2 := hb1.grown hg2 hz1 (fun j hj => by injection hj with hj; omega)
  have HI := hide hS2.ints
  have HX := hide hX
  have hgl := (IntSl.capI hS2).2.2.2.2
  clear hS2 hg2 hX
  go_wp2_with fail
  refine bodyPost_ret (results_tmp rfl _ _ _) rfl ⟨ls, g, c2, rfl, HI.out, hl, hgl, HX, hb2⟩

set_option maxRecDepth 100000 in
set_option maxHeartbeats 4000000 in
theorem lawSettleFast_any (A : Option Addr) (c m : Nat) (w : World) (hB : BytesIn w A m) (hc : m ≤ c) (hc2 : c ≤ 9223372036854775807) :
    Calls Tryd.prog 14 #[.slice A m c] w fun e w' => e = .returned (.bool true) ∧ Below w.heap.size w w' := by
  by_cases hlen : (1048576 : Int) < m
  · go_enter Tryd.func14, Tryd.ntmps14
    go_wp2_with fail
    go_ret
    exact ⟨rfl, by go_grown⟩
  · go_enter Tryd.func14, Tryd.ntmps14
    go_wp2_with fail
    refine (drawSettleFast_any A c m w hB (by omega) hc hc2).mono ?_
    rintro e w1 ⟨xs, g, c1, rfl, hI, hl, -, -, hb1⟩
    have hl' : xs.length ≤ 1048576 := by omega
    have HI1 := hide hI
    obtain ⟨T, HT⟩ : ∃ T, Hid (settleFastL xs = T) := ⟨_, hide rfl⟩
    have hTl : T.length ≤ 1048576 := by
      rw [← HT.out]
      exact settleFastL_len _
    clear hI
    go_wp2_with fail
    refine (implSettleFast_any ⟨g, 0, none⟩ _ _ _ HI1.out hl').mono ?_
    rintro e w2 ⟨v, rfl, hv, hB2⟩
    rw [HT.out] at hv
    obtain ⟨A2, k2, rfl, hI2, -⟩ := hv.form
    have hb2 := next hb1 hB2
    have HI2 := hide (HI1.out.below hB2)
    have HT2 := hide hI2
    clear hB2 hv hI2
    go_wp2_with fail
    refine (specSettleFast_any ⟨g, 0, none⟩ _ _ _ HI2.out hl').mono ?_
    rintro e w3 ⟨v, rfl, hv, hB3⟩
    rw [HT.out] at hv
    obtain ⟨A3, k3, rfl, hI3, -⟩ := hv.form
    have hb3 := next hb2 hB3
    have HI3 := hide (HI2.out.below hB3)
    have HT3 := hide (HT2.out.below hB3)
    have HU3 := hide hI3
    clear hB3 hv hI3
    go_wp2_with fail
    refine (samePays_same _ _ _ _ _ _ HT3.out HU3.out hTl).mono ?_
    rintro e w4 ⟨rfl, hB4⟩
    have hb4 := next hb3 hB4
    have HI4 := hide (HI3.out.below hB4)
    have HT4 := hide (HT3.out.below hB4)
    clear hB4
    go_wp2_with fail
    refine (specOwedValid_any _ _ _ _ HI4.out hl').mono ?_
    rintro e w5 ⟨rfl, hB5⟩
    have hb5 := next hb4 hB5
    have HI5 := hide (HI4.out.below hB5)
    have HT5 := hide (HT4.out.below hB5)
    clear hB5 HI1 HI2 HI3 HI4 HT2 HT3 HT4 HU3
    cases hok : owedOk xs with
    | false =>
      have hT0 : T = [] := by rw [← HT.out]; unfold settleFastL; rw [if_neg (by rw [hok]; decide)]
      subst hT0
      go_wp2_with fail
      refine (alive_any _).mono ?_
      rintro e w6 ⟨rfl, hB6⟩
      go_wp2_with fail
      go_ret
      exact ⟨rfl, next hb5 hB6⟩
    | true =>
      obtain ⟨hs1, hs2, hs3⟩ := settleFast_said hok
      rw [HT.out] at hs1 hs2 hs3
      have HPO := hide hs1
      have HN0 := hide hs2
      have HN1 := hide hs3
      clear hs1 hs2 hs3 hok
      go_wp2_with fail
      go_loopw [5, 6] (fun nv iv wr => ∃ (k n : Nat), k ≤ xs.length ∧ iv = .int .i64 k ∧ nv = .int .i64 n ∧ n ≤ k ∧ Hid (nz (xs.take k) = n) ∧ Below w5.heap.size w5 wr) (fun _ iv _ => xs.length - (intOf iv).toNat)
      case atStart => exact ⟨0, 0, Nat.zero_le _, rfl, rfl, Nat.le_refl _, hide rfl, Below.refl _ _⟩
      case round =>
        obtain ⟨k, n, hk, rfl, rfl, hnk, HNZ, hd⟩ := hrel
        have hb := next hb5 hd
        by_cases hlt : k < xs.length
        · obtain ⟨b, off, hDD, hbl, hc1⟩ := (HI5.out.below hd) k xs[k] (List.getElem?_eq_getElem hlt)
          injection hDD with hDD
          injection hDD with e1 e2
          subst e1 e2
          rw [Nat.zero_add] at hc1
          have HTK := hide (nz_take (List.getElem?_eq_getElem hlt))
          have hy0 : (0 : Int) ≤ k := by omega
          have hy1 : (k : Int) < xs.length := by omega
          generalize xs[k] = x at *
          by_cases hx0 : x = 0
          · have hxb : (x != 0) = false := by rw [hx0]; rfl
            have HNX : Hid (nz (xs.take (k + 1)) = n) := hide (by rw [HTK.out, HNZ.out, hxb]; rfl)
            clear hx0
            go_wp2_with fail
            go_roundw
            case rel => exact ⟨k + 1, n, hlt, by go_num, rfl, by omega, HNX, hd⟩
            case measure => simp [intOf]; omega
          · have hxb : (x != 0) = true := by simpa using hx0
            have HNX : Hid (nz (xs.take (k + 1)) = n + 1) := hide (by rw [HTK.out, HNZ.out, hxb]; rfl)
            clear hx0
            go_wp2_with fail
            go_roundw
            case rel => exact ⟨k + 1, n + 1, hlt, by go_num, by go_num, by omega, HNX, hd⟩
            case measure => simp [intOf]; omega
        · have hy1 : ¬ (k : Int) < xs.length := by omega
          have HNZ2 : Hid (nz xs = n) := hide (by rw [← HNZ.out, List.take_of_length_le (by omega)])
          have HI6 := hide (HI5.out.below hd)
          have HT6 := hide (HT5.out.below hd)
          by_cases hn0 : n = 0
          · have hT0 : T = [] := HN0.out (by rw [HNZ2.out, hn0])
            subst hT0
            have hnb : ((n : Int) == 0) = true := by rw [hn0]; rfl
            clear hn0
            go_wp2_with fail
            refine (implPaysOk_any ⟨g, 0, none⟩ _ _ _ _ _ _ HI6.out hl' HT6.out hTl).mono ?_
            rintro e w7 ⟨rfl, hB7⟩
            rw [HPO.out]
            go_wp2_with fail
            go_ret
            exact ⟨rfl, next hb hB7⟩
          · have hnb : ((n : Int) == 0) = false := beq_false_of_ne (by omega)
            have hTn : T.length < n := by have := HN1.out (by rw [HNZ2.out]; omega); rwa [HNZ2.out] at this
            have hTz : (T.length : Int) < n := by omega
            clear hn0
            go_wp2_with fail
            refine (implPaysOk_any ⟨g, 0, none⟩ _ _ _ _ _ _ HI6.out hl' HT6.out hTl).mono ?_
            rintro e w7 ⟨rfl, hB7⟩
            rw [HPO.out]
            go_wp2_with fail
            go_ret
            exact ⟨rfl, next hb hB7⟩
end Go.Proofs.YteocmjffjinphaaDoor
