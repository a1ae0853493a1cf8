/- For all drawn bytes the law of SettleBest answers true, and its argument reads as it did.
   Conditions: none. -/
import Derived.Test.YtgagfaajilbmmaaDoorLawKit
import Derived.Test.YtgagfaajilbmmaaDoorDrawOwed
import Derived.Test.YtgagfaajilbmmaaDoorGrpImpl
import Derived.Test.YtgagfaajilbmmaaDoorGrpSpec
import Derived.Test.YtgagfaajilbmmaaDoorWalkSettleFast
namespace Go.Proofs.YtgagfaajilbmmaaDoor
open Go.RowKit Go.ChangeShapes Go.WideShapes Go.ChangeAt Go.Deep

set_option maxHeartbeats 1000000 in
theorem drawSettleBest_any (A : Option Addr) (c m : Nat) (w : World) (hB : BytesIn w A m) (hm : m ≤ 9223372036854775807) (hc : m ≤ c) (hc2 : c ≤ 9223372036854775807) :
    Calls Tryd.prog 46 #[.slice A m c] w (DrawnIG 100000 8 w) := by
  go_enter Tryd.func46, Tryd.ntmps46
  go_wp2_with fail
  refine (open_any A c m w hB hm hc hc2).mono ?_
  rintro e w1 ⟨rfl, hR1, hb1⟩
  have hz1 := hb1.size
  go_wp2_with fail
  refine (l20Owed_any w.heap.size 0 9 _ hR1 (by omega) (by omega)).mono ?_
  rintro e w2 ⟨ls, g, c2, rfl, hS2, hl, hR2, hg2, hX⟩
  have hb2 : Below w.heap.size w w2 := hb1.grown hg2 hz1 (fun j hj => by injection hj with hj; omega)
  have HI := hide hS2.ints
  have HX := hide hX
  have hgl := (IntSl.capI hS2).2.2.2.2
  clear hS2 hg2 hX
  go_wp2_with fail
  refine bodyPost_ret (results_tmp rfl _ _ _) rfl ⟨ls, g, c2, rfl, HI.out, hl, hgl, HX, hb2⟩

set_option maxRecDepth 100000 in
set_option maxHeartbeats 4000000 in
theorem lawSettleBest_any (A : Option Addr) (c m : Nat) (w : World) (hB : BytesIn w A m) (hc : m ≤ c) (hc2 : c ≤ 9223372036854775807) :
    Calls Tryd.prog 11 #[.slice A m c] w fun e w' => e = .returned (.bool true) ∧ Below w.heap.size w w' := by
  by_cases hlen : (1048576 : Int) < m
  · go_enter Tryd.func11, Tryd.ntmps11
    go_wp2_with fail
    go_ret
    exact ⟨rfl, by go_grown⟩
  · go_enter Tryd.func11, Tryd.ntmps11
    go_wp2_with fail
    refine (drawSettleBest_any A c m w hB (by omega) hc hc2).mono ?_
    rintro e w1 ⟨xs, g, c1, rfl, hI, hl, -, -, hb1⟩
    have hl' : xs.length ≤ 1048576 := by omega
    have HI1 := hide hI
    clear hI
    obtain ⟨T, HT⟩ : ∃ T, Hid (settleBestL xs = T) := ⟨_, hide rfl⟩
    have hTl : T.length ≤ 1048576 := by
      rw [← HT.out]
      exact settleBestL_len _
    go_wp2_with fail
    refine (implSettleBest_any _ _ _ _ HI1.out hl').mono ?_
    rintro e w2 ⟨v, rfl, hv, hB2⟩
    rw [HT.out] at hv
    obtain ⟨A2, k2, rfl, hI2, -⟩ := hv.form
    have hb2 := next hb1 hB2
    have HI2 := hide (HI1.out.below hB2)
    have HT2 := hide hI2
    clear hB2 hv hI2
    go_wp2_with fail
    refine (specSettleBest_any _ _ _ _ HI2.out hl').mono ?_
    rintro e w3 ⟨v, rfl, hv, hB3⟩
    rw [HT.out] at hv
    obtain ⟨A3, k3, rfl, hI3, -⟩ := hv.form
    have hb3 := next hb2 hB3
    have HI3 := hide (HI2.out.below hB3)
    have HT3 := hide (HT2.out.below hB3)
    have HU3 := hide hI3
    clear hB3 hv hI3
    go_wp2_with fail
    refine (samePays_same _ _ _ _ _ _ HT3.out HU3.out hTl).mono ?_
    rintro e w4 ⟨rfl, hB4⟩
    have hb4 := next hb3 hB4
    have HI4 := hide (HI3.out.below hB4)
    have HT4 := hide (HT3.out.below hB4)
    clear hB4
    go_wp2_with fail
    refine (specOwedValid_any _ _ _ _ HI4.out hl').mono ?_
    rintro e w5 ⟨rfl, hB5⟩
    have hb5 := next hb4 hB5
    have HI5 := hide (HI4.out.below hB5)
    have HT5 := hide (HT4.out.below hB5)
    clear hB5 HI1 HI2 HI3 HI4 HT2 HT3 HT4 HU3
    cases hok : owedOk xs with
    | false =>
      have hT0 : T = [] := by rw [← HT.out]; unfold settleBestL; rw [if_neg (by rw [hok]; decide)]
      subst hT0
      go_wp2_with fail
      refine (alive_any _).mono ?_
      rintro e w6 ⟨rfl, hB6⟩
      go_wp2_with fail
      go_ret
      exact ⟨rfl, next hb5 hB6⟩
    | true =>
      obtain ⟨-, hs2, hs3⟩ := settleBest_said hok
      rw [HT.out] at hs2 hs3
      have HPO := hide hs2
      have HSG := hide hs3
      clear hs2 hs3 hok
      go_wp2_with fail
      go_loopw [5] (fun iv wr => ∃ (k : Nat), k ≤ T.length ∧ iv = .int .i64 k ∧ Below w5.heap.size w5 wr) (fun iv _ => T.length - (intOf iv).toNat)
      case atStart => exact ⟨0, Nat.zero_le _, rfl, Below.refl _ _⟩
      case round =>
        obtain ⟨k, hk, rfl, hd⟩ := hrel
        have hb := next hb5 hd
        by_cases hlt : k < T.length
        · obtain ⟨b, off, rfl, hbl, hp1, hp2, hp3⟩ := (HT5.out.below hd) k T[k] (List.getElem?_eq_getElem hlt)
          have hsg := HSG.out T[k] (List.getElem_mem hlt)
          generalize T[k] = p at *
          obtain ⟨hpo, hneg, hpos⟩ := hsg
          obtain ⟨f, t, hf, ht, hfn, htn, -, -, -⟩ := payOk_parts hpo
          rw [hf] at hp1 hneg
          rw [ht] at hp2 hpos
          rw [Int.toNat_natCast] at hneg hpos
          obtain ⟨b1, o1, hD1, -, hcf⟩ := (HI5.out.below hd) f xs[f] (List.getElem?_eq_getElem hfn)
          injection hD1 with hD1
          injection hD1 with e1 e2
          subst e1 e2
          rw [Nat.zero_add] at hcf
          obtain ⟨b1, o1, hD1, -, hct⟩ := (HI5.out.below hd) t xs[t] (List.getElem?_eq_getElem htn)
          injection hD1 with hD1
          injection hD1 with e1 e2
          subst e1 e2
          rw [Nat.zero_add] at hct
          have hxf : xs[f] < 0 := by simpa [hfn] using hneg
          have hxt : 0 < xs[t] := by simpa [htn] using hpos
          generalize xs[f] = x at *
          generalize xs[t] = y at *
          have hz : (0 : Int) ≤ k := by omega
          have hz2 : (k : Int) < T.length := by omega
          have hf0 : (0 : Int) ≤ f := by omega
          have hf1 : (f : Int) < xs.length := by omega
          have ht0 : (0 : Int) ≤ t := by omega
          have ht1 : (t : Int) < xs.length := by omega
          have hx1 : ¬ 0 ≤ x := by omega
          have hy1 : ¬ y ≤ 0 := by omega
          clear hpo hneg hpos hf ht hp3
          go_wp2_with fail
          go_roundw
          case rel => exact ⟨k + 1, hlt, by go_num, hd⟩
          case measure => simp [intOf]; omega
        · have hy1 : ¬ (k : Int) < T.length := by omega
          have HI6 := hide (HI5.out.below hd)
          have HT6 := hide (HT5.out.below hd)
          go_wp2_with fail
          refine (implPaysOk_any ⟨g, 0, none⟩ _ _ _ _ _ _ HI6.out hl' HT6.out hTl).mono ?_
          rintro e w7 ⟨rfl, hB7⟩
          rw [HPO.out]
          go_wp2_with fail
          go_ret
          exact ⟨rfl, next hb hB7⟩
end Go.Proofs.YtgagfaajilbmmaaDoor
