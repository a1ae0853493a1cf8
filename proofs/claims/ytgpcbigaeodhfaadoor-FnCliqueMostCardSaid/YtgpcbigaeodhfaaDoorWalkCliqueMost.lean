/- For all drawn bytes the law of CliqueMost answers true, and its argument reads as it did.
   Conditions: none. -/
import Derived.Test.YtgpcbigaeodhfaaDoorLawKit
import Derived.Test.YtgpcbigaeodhfaaDoorDrawQuar
import Derived.Test.YtgpcbigaeodhfaaDoorZ4
import Derived.Test.YtgpcbigaeodhfaaDoorSeatMath2
namespace Go.Proofs.YtgpcbigaeodhfaaDoor
open Go.RowKit Go.ChangeShapes Go.WideShapes Go.ChangeAt Go.Deep

def DrawnCliqueMost (w : World) (e : Ending) (w' : World) : Prop := ∃ (gs : Int) (ls : List Int) (g c : Nat), e = .returned (.tuple #[.int .i64 gs, .slice (some ⟨g, 0, none⟩) ls.length c]) ∧
  IntsAt w' (some ⟨g, 0, none⟩) ls ∧ ls.length ≤ 7 ∧ 0 ≤ gs ∧ gs ≤ 6 ∧ Below w.heap.size w w'

set_option maxHeartbeats 1000000 in
theorem drawCliqueMost_any (A : Option Addr) (c m : Nat) (w : World) (hB : BytesIn w A m) (hm : m ≤ 9223372036854775807) (hc : m ≤ c) (hc2 : c ≤ 9223372036854775807) :
    Calls Tryd.prog 41 #[.slice A m c] w (DrawnCliqueMost w) := by
  go_enter Tryd.func41, Tryd.ntmps41
  go_wp2_with fail
  refine (open_any A c m w hB hm hc hc2).mono ?_
  rintro e w1 ⟨rfl, hR1, hb1⟩
  have hz1 := hb1.size
  go_wp2_with fail
  refine (l20Quarrels_any w.heap.size 0 9 _ hR1 (by omega) (by omega)).mono ?_
  rintro e w2 ⟨gs, ls, g, c2, rfl, hS2, hl7, hle, hg0, hg6, hR2, hg2⟩
  have hb2 : Below w.heap.size w w2 := hb1.grown hg2 hz1 (fun j hj => by injection hj with hj; omega)
  have HS2 := hide (IntSl.ints hS2)
  clear hg2 hS2 hle
  go_wp2_with fail
  refine bodyPost_ret (results_tmp2 rfl _ _ _) rfl ⟨gs, ls, g, c2, rfl, HS2.out, hl7, hg0, hg6, hb2⟩

set_option maxRecDepth 100000 in
set_option maxHeartbeats 4000000 in
theorem lawCliqueMost_any (A : Option Addr) (c m : Nat) (w : World) (hB : BytesIn w A m) (hc : m ≤ c) (hc2 : c ≤ 9223372036854775807) :
    Calls Tryd.prog 10 #[.slice A m c] w fun e w' => e = .returned (.bool true) ∧ Below w.heap.size w w' := by
  by_cases hlen : (1048576 : Int) < m
  · go_enter Tryd.func10, Tryd.ntmps10
    go_wp2_with fail
    go_ret
    exact ⟨rfl, by go_grown⟩
  · go_enter Tryd.func10, Tryd.ntmps10
    go_wp2_with fail
    refine (drawCliqueMost_any A c m w hB (by omega) hc hc2).mono ?_
    rintro e w1 ⟨gs, ls, g, c1, rfl, hI, hl7, hg0, hg6, hb1⟩
    have HI1 := hide hI
    obtain ⟨v, HV⟩ : ∃ v, Hid (cliqueMostL gs ls = v) := ⟨_, hide rfl⟩
    have hbb : (v != v) = false := by simp
    clear hI
    go_wp2_with fail
    refine (implCliqueMost_any _ _ _ _ _ HI1.out (by omega)).mono ?_
    rintro e w2 ⟨rfl, hB2⟩
    rw [HV.out]
    have hb2 := next hb1 hB2
    have HI2 := hide (HI1.out.below hB2)
    clear hB2 HI1
    go_wp2_with fail
    refine (specCliqueMost_any _ _ _ _ _ HI2.out (by omega)).mono ?_
    rintro e w3 ⟨rfl, hB3⟩
    rw [HV.out]
    have hb3 := next hb2 hB3
    have HI3 := hide (HI2.out.below hB3)
    clear hB3 HI2
    cases hq : quarOk gs ls with
    | false =>
      have hv : cliqueMostL gs ls = -1 := cq_no hq
      rw [HV.out] at hv
      subst hv
      go_wp2_with fail
      refine (alive_any _).mono ?_
      rintro e we ⟨rfl, hBe⟩
      go_wp2_with fail
      go_ret
      exact ⟨rfl, next hb3 hBe⟩
    | true =>
      have HQ := hide hq
      have hgl := (quarOk_g hq).2.2
      have hv0 : 0 ≤ v := by
        rw [← HV.out]
        unfold cliqueMostL
        rw [if_pos hq]
        exact (mostGo_range _ _).1
      have hvn : ¬ v < 0 := by omega
      obtain ⟨L, HL⟩ : ∃ L, Hid (seatsLeastL gs ls = L) := ⟨_, hide rfl⟩
      have hvL : v ≤ L := by rw [← HL.out, ← HV.out]; exact clique_least hq
      have hd1 : decide (v ≤ L) = true := decide_eq_true hvL
      have HS1 := hide (clique_some hq).1
      have hs2 := (clique_some hq).2
      rw [HV.out] at HS1 hs2
      have hs3 : (decide (0 < v) == decide (0 < gs)) = true := by rw [hs2]; simp
      have hgz : (ls.length : Int) = gs := hgl
      clear hq hs2
      go_wp2_with fail
      go_loopw [6, 7] (fun sv i wr => ∃ (k : Nat) (b : Bool), k ≤ ls.length ∧ i = .int .i64 k ∧ sv = .bool b ∧ Hid ((ls.take k).any (fun x => decide (0 < x)) = b) ∧ wr = w3) (fun _ i _ => ls.length - (intOf i).toNat)
      case atStart => exact ⟨0, false, Nat.zero_le _, rfl, rfl, hide rfl, rfl⟩
      case round =>
        obtain ⟨k, b, hk, rfl, rfl, HB, rfl⟩ := hrel
        by_cases hlt : k < ls.length
        · obtain ⟨b4, off4, he, hbl4, hr4⟩ := HI3.out k ls[k] (List.getElem?_eq_getElem hlt)
          injection he with he
          injection he with he1 he2
          subst he1 he2
          rw [Nat.zero_add] at hr4
          have HT : Hid ((ls.take (k + 1)).any (fun x => decide (0 < x)) = (b || decide (0 < ls[k]))) := hide (by rw [List.take_succ_eq_append_getElem hlt, List.any_append, HB.out]; simp)
          generalize ls[k] = x at *
          have hz : (0 : Int) ≤ k := by omega
          have hz2 : (k : Int) < gs := by omega
          have hz3 : (k : Int) < ls.length := by omega
          cases b with
          | true =>
            go_wp2_with fail
            go_roundw
            case rel => exact ⟨k + 1, true, hlt, by go_num, rfl, HT, trivial⟩
            case measure => simp [intOf]; omega
          | false =>
            rw [Bool.false_or] at HT
            go_wp2_with fail
            go_roundw
            case rel => exact ⟨k + 1, decide (0 < x), hlt, by go_num, rfl, HT, trivial⟩
            case measure => simp [intOf]; omega
        · obtain rfl : k = ls.length := by omega
          have hz2 : ¬ ((ls.length : Nat) : Int) < gs := by omega
          have hbe : b = decide (2 ≤ v) := by rw [HS1.out, ← HB.out, List.take_length]
          have hb4 : (decide (2 ≤ v) == b) = true := by rw [hbe]; simp
          clear hbe
          go_wp2_with fail
          refine (implSeatsLeast_any _ _ _ _ _ HI3.out (by omega)).mono ?_
          rintro e w5 ⟨rfl, hB5⟩
          rw [HL.out]
          go_wp2_with fail
          go_ret
          exact ⟨rfl, next hb3 hB5⟩
end Go.Proofs.YtgpcbigaeodhfaaDoor
