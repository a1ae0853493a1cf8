/- For all drawn bytes the law of TipOf answers true, and its argument reads as it did.
   Conditions: none. -/
import Derived.Test.YteocmjffjinphaaDoorLawKit
import Derived.Test.YteocmjffjinphaaDoorDrawSum
import Derived.Test.YteocmjffjinphaaDoorBills
namespace Go.Proofs.YteocmjffjinphaaDoor
open Go.RowKit Go.ChangeShapes Go.WideShapes Go.ChangeAt

theorem tip_said {s p : Int} (h : (inR s 0 9999 && inR p 0 100) = true) : ∃ x M, tipL s p = x ∧ s * p = M ∧ 0 ≤ x ∧ x ≤ 10000 ∧ 0 ≤ M ∧ M ≤ 999900 ∧ M ≤ 100 * x ∧ 100 * x < M + 100 ∧ tipL s 100 = s ∧ tipL s 0 = 0 ∧ 0 ≤ s ∧ s ≤ 9999 ∧ 0 ≤ p ∧ p ≤ 100 := by
  have h2 := h
  simp only [Bool.and_eq_true, inR_iff] at h2
  obtain ⟨⟨hs0, hs1⟩, hp0, hp1⟩ := h2
  obtain ⟨hm0, hm1⟩ := tip_range hs0 hs1 hp0 hp1
  have hs : inR s 0 9999 = true := inR_iff.2 ⟨hs0, hs1⟩
  have e1 : tipL s p = (s * p + 99) / 100 := by unfold tipL; rw [if_pos h, Int.tdiv_eq_ediv_of_nonneg (by omega)]
  have e2 : tipL s 100 = s := by unfold tipL; rw [if_pos (by rw [hs]; rfl), Int.tdiv_eq_ediv_of_nonneg (by omega)]; omega
  have e3 : tipL s 0 = 0 := by unfold tipL; rw [if_pos (by rw [hs]; rfl), Int.mul_zero]; rfl
  refine ⟨_, _, e1, rfl, ?_, ?_, hm0, hm1, ?_, ?_, e2, e3, hs0, hs1, hp0, hp1⟩ <;> omega

def DrawnTip (w : World) (e : Ending) (w' : World) : Prop := ∃ s p : Int, e = .returned (.tuple #[.int .i64 s, .int .i64 p]) ∧ -20000 ≤ s ∧ s ≤ 20000 ∧ -1 ≤ p ∧ p ≤ 101 ∧ Below w.heap.size w w'

set_option maxHeartbeats 1000000 in
theorem drawTipOf_any (A : Option Addr) (c m : Nat) (w : World) (hB : BytesIn w A m) (hm : m ≤ 9223372036854775807) (hc : m ≤ c) (hc2 : c ≤ 9223372036854775807) :
    Calls Tryd.prog 43 #[.slice A m c] w (DrawnTip w) := by
  go_enter Tryd.func43, Tryd.ntmps43
  go_wp2_with fail
  refine (open_any A c m w hB hm hc hc2).mono ?_
  rintro e w1 ⟨rfl, hR1, hb1⟩
  have hz1 := hb1.size
  go_wp2_with fail
  refine (l20Sum_any w.heap.size 0 _ hR1 (by omega)).mono ?_
  rintro e w2 ⟨s, rfl, hs0, hs1, hR2, hg2⟩
  have hb2 : Below w.heap.size w w2 := hb1.grown hg2 hz1 (fun j hj => by injection hj with hj; omega)
  have hz2 := hb2.size
  clear hg2
  go_wp2_with fail
  refine (pick_any w.heap.size _ 103 _ hR2 (by omega) (by omega)).mono ?_
  rintro e w3 ⟨p, rfl, hp0, hp1, hR3, hg3⟩
  have hb3 : Below w.heap.size w w3 := hb2.grown hg3 hz2 (fun j hj => by injection hj with hj; omega)
  have hp2 : p ≤ 102 := by omega
  clear hg3
  go_wp2_with fail
  refine bodyPost_ret (results_tmp2 rfl _ _ _) rfl ⟨s, p - 1, rfl, hs0, hs1, by omega, by omega, hb3⟩

set_option maxRecDepth 100000 in
set_option maxHeartbeats 4000000 in
theorem lawTipOf_any (A : Option Addr) (c m : Nat) (w : World) (hB : BytesIn w A m) (hc : m ≤ c) (hc2 : c ≤ 9223372036854775807) :
    Calls Tryd.prog 11 #[.slice A m c] w fun e w' => e = .returned (.bool true) ∧ Below w.heap.size w w' := by
  by_cases hlen : (1048576 : Int) < m
  · go_enter Tryd.func11, Tryd.ntmps11
    go_wp2_with fail
    go_ret
    exact ⟨rfl, by go_grown⟩
  · go_enter Tryd.func11, Tryd.ntmps11
    go_wp2_with fail
    refine (drawTipOf_any A c m w hB (by omega) hc hc2).mono ?_
    rintro e w1 ⟨s, p, rfl, -, -, -, -, hb1⟩
    cases hok : (inR s 0 9999 && inR p 0 100) with
    | false =>
      have HI := hide (fun W => implTipOf_any s p W)
      have HS := hide (fun W => specTipOf_any s p W)
      have ht : tipL s p = -1 := by unfold tipL; rw [if_neg (by rw [hok]; decide)]
      rw [ht] at HI HS
      clear ht hok
      go_wp2_with fail
      refine (HI.out _).mono ?_
      rintro e w2 ⟨rfl, hB2⟩
      have hb2 := next hb1 hB2
      go_wp2_with fail
      refine (HS.out _).mono ?_
      rintro e w3 ⟨rfl, hB3⟩
      have hb3 := next hb2 hB3
      go_wp2_with fail
      refine (alive_any _).mono ?_
      rintro e w4 ⟨rfl, hB4⟩
      go_wp2_with fail
      go_ret
      exact ⟨rfl, next hb3 hB4⟩
    | true =>
      obtain ⟨x, M, hx, hM, hx0, hx1, hM0, hM1, hxa, hxb, h100, h00, hs0, hs1, hp0, hp1⟩ := tip_said hok
      have HI := hide (fun W => implTipOf_any s p W)
      have HS := hide (fun W => specTipOf_any s p W)
      have HH := hide (fun W => implTipOf_any s 100 W)
      have HN := hide (fun W => implTipOf_any s 0 W)
      rw [hx] at HI HS
      rw [h100] at HH
      rw [h00] at HN
      have hwM : IntKind.i64.wrap (s * p) = M := (IntWalk.i64_in _ (by omega)).trans hM
      have hss : (s == s) = true := by simp
      have hxx : (x != x) = false := by simp
      have hneg : ¬ x < 0 := by omega
      clear hx hM h100 h00 hok
      go_wp2_with fail
      refine (HI.out _).mono ?_
      rintro e w2 ⟨rfl, hB2⟩
      have hb2 := next hb1 hB2
      go_wp2_with fail
      refine (HS.out _).mono ?_
      rintro e w3 ⟨rfl, hB3⟩
      have hb3 := next hb2 hB3
      clear hB2 hB3
      go_wp2_with fail
      refine (HH.out _).mono ?_
      rintro e w4 ⟨rfl, hB4⟩
      have hb4 := next hb3 hB4
      go_wp2_with fail
      refine (HN.out _).mono ?_
      rintro e w5 ⟨rfl, hB5⟩
      have hb5 := next hb4 hB5
      go_wp2_with fail
      go_ret
      exact ⟨rfl, hb5⟩
end Go.Proofs.YteocmjffjinphaaDoor
