/- For all drawn bytes the law of BurnLeast answers true, and its argument reads as it did.
   Conditions: none. -/
import Derived.Test.YteloapholoechaaDoorLawKit
import Derived.Test.YteloapholoechaaDoorDrawBurn
import Derived.Test.YteloapholoechaaDoorBurnL
namespace Go.Proofs.YteloapholoechaaDoor
open Go.RowKit Go.ChangeShapes Go.WideShapes Go.ChangeAt

def DrawnBurnL (w : World) (e : Ending) (w' : World) : Prop := ∃ (xs : List Int) (s : Int) (g c : Nat), e = .returned (.tuple #[.slice (some ⟨g, 0, none⟩) xs.length c, .int .i64 s]) ∧ IntsAt w' (some ⟨g, 0, none⟩) xs ∧ xs.length ≤ 7 ∧ -2 ≤ s ∧ s ≤ 6 ∧ xs.length ≤ c ∧ Below w.heap.size w w'

set_option maxHeartbeats 1000000 in
theorem drawBurnList_any (A : Option Addr) (c m : Nat) (w : World) (hB : BytesIn w A m) (hm : m ≤ 9223372036854775807) (hc : m ≤ c) (hc2 : c ≤ 9223372036854775807) :
    Calls Tryd.prog 32 #[.slice A m c] w (DrawnBurnL w) := by
  go_enter Tryd.func32, Tryd.ntmps32
  go_wp2_with fail
  refine (open_any A c m w hB hm hc hc2).mono ?_
  rintro e w1 ⟨rfl, hR1, hb1⟩
  have hz1 := hb1.size
  go_wp2_with fail
  refine (l20Spans_any w.heap.size 0 9 _ hR1 (by omega) (by omega)).mono ?_
  rintro e w2 ⟨xs, g, c2, rfl, hS2, hl, hR2, hg2, hX⟩
  have HS2 := hide hS2
  have hb2 : Below w.heap.size w w2 := hb1.grown hg2 hz1 (fun j hj => by injection hj with hj; omega)
  clear hS2 hg2 hX
  go_wp2_with fail
  refine (l20Burners_any w.heap.size _ _ hR2 (by omega)).mono ?_
  rintro e w3 ⟨s, rfl, hs0, hs1, hR3, hg3⟩
  have hS3 := row_pickI HS2.out hR1.lt hg3
  have hb3 : Below w.heap.size w w3 := hb2.grown hg3 hb2.size (fun j hj => by injection hj with hj; omega)
  have HI := hide (IntSl.ints hS3)
  have hcc := (IntSl.capI hS3).2.1
  clear hS3 hg3
  go_wp2_with fail
  refine bodyPost_ret (results_tmp2 rfl _ _ _) rfl ⟨xs, s, g, c2, rfl, HI.out, hl, hs0, hs1, hcc, hb3⟩

set_option maxHeartbeats 1000000 in
theorem drawBurnLeast_any (A : Option Addr) (c m : Nat) (w : World) (hB : BytesIn w A m) (hm : m ≤ 9223372036854775807) (hc : m ≤ c) (hc2 : c ≤ 9223372036854775807) :
    Calls Tryd.prog 37 #[.slice A m c] w (DrawnBurnL w) := by
  go_enter Tryd.func37, Tryd.ntmps37
  go_wp2_with fail
  refine (drawBurnList_any A c m w hB hm hc hc2).mono ?_
  rintro e w1 ⟨xs, s, g, c1, rfl, hI, hl, hs0, hs1, hcc, hb1⟩
  have HI := hide hI
  clear hI
  go_wp2_with fail
  refine bodyPost_ret (results_tmp2 rfl _ _ _) rfl ⟨xs, s, g, c1, rfl, HI.out, hl, hs0, hs1, hcc, hb1⟩

set_option maxRecDepth 100000 in
set_option maxHeartbeats 4000000 in
theorem lawBurnLeast_any (A : Option Addr) (c m : Nat) (w : World) (hB : BytesIn w A m) (hc : m ≤ c) (hc2 : c ≤ 9223372036854775807) :
    Calls Tryd.prog 8 #[.slice A m c] w fun e w' => e = .returned (.bool true) ∧ Below w.heap.size w w' := by
  by_cases hlen : (1048576 : Int) < m
  · go_enter Tryd.func8, Tryd.ntmps8
    go_wp2_with fail
    go_ret
    exact ⟨rfl, by go_grown⟩
  · go_enter Tryd.func8, Tryd.ntmps8
    go_wp2_with fail
    refine (drawBurnLeast_any A c m w hB (by omega) hc hc2).mono ?_
    rintro e w1 ⟨xs, s, g, c1, rfl, hI, hl, hs0, hs1, hcc, hb1⟩
    have hl' : xs.length ≤ 1048576 := by omega
    have HI := hide hI
    clear hI
    obtain ⟨v, HV⟩ : ∃ v, Hid (burnLeastL xs s = v) := ⟨_, hide rfl⟩
    have hbb : (v != v) = false := by simp
    go_wp2_with fail
    refine (implBurnLeast_any _ _ _ _ _ HI.out hl' hcc).mono ?_
    rintro e w2 ⟨rfl, hB2⟩
    have hb2 := next hb1 hB2
    have HI2 := hide (HI.out.below hB2)
    rw [HV.out]
    clear hB2 HI
    go_wp2_with fail
    refine (specBurnLeast_any _ _ _ _ _ HI2.out hl').mono ?_
    rintro e w3 ⟨rfl, hB3⟩
    have hb3 := next hb2 hB3
    have HI3 := hide (HI2.out.below hB3)
    rw [HV.out]
    clear hB3 HI2
    cases hok : burnFit xs s with
    | false =>
      obtain rfl : v = -1 := by rw [← HV.out]; unfold burnLeastL; rw [hok]; rfl
      go_wp2_with fail
      refine (alive_any _).mono ?_
      rintro e w6 ⟨rfl, hB6⟩
      go_wp2_with fail
      go_ret
      exact ⟨rfl, next hb3 hB6⟩
    | true =>
      obtain ⟨v0, v1⟩ := burnLeast_nn hok
      rw [HV.out] at v0 v1
      obtain ⟨hf1, hone⟩ := burnLeast_one hok
      obtain ⟨hsp, n, rfl, hn1, hn3⟩ := burnFit_parts hok
      have hrg := spans_rng hsp
      have h6 := spansOk_len hsp
      have HSW : Hid (sumW xs = burnLeastL xs 1) := hide (by rw [hone]; exact sumW_plain (hi := 30) hrg (by omega) (by omega))
      obtain ⟨S, hS⟩ : ∃ S, burnLeastL xs 1 = S := ⟨_, rfl⟩
      have hS0 := burnLeast_nn hf1
      rw [hS] at hS0
      have HS := hide hS
      have hse : (S == S) = true := by simp
      by_cases h3 : n = 3
      · subst h3
        clear hS hrg hsp hok hf1 hone
        go_wp2_with fail
        refine (implBurnLeast_any _ _ _ _ _ HI3.out hl' hcc).mono ?_
        rintro e w4 ⟨rfl, hB4⟩
        have hb4 := next hb3 hB4
        have HI4 := hide (HI3.out.below hB4)
        rw [HS.out]
        clear hB4
        go_wp2_with fail
        refine (lawSumI_any _ _ _ _ HI4.out hl').mono ?_
        rintro e w5 ⟨rfl, rfl⟩
        rw [HSW.out, HS.out]
        go_wp2_with fail
        go_ret
        exact ⟨rfl, hb4⟩
      · obtain ⟨hf2, hle⟩ := burnLeast_more hok (by omega)
        rw [HV.out] at hle
        obtain ⟨u, hu⟩ : ∃ u, burnLeastL xs ((n : Int) + 1) = u := ⟨_, rfl⟩
        have hu0 := burnLeast_nn hf2
        rw [hu] at hle hu0
        have HU := hide hu
        have hn : ((n : Int) == 3) = false := by simp; omega
        clear hS hrg hsp hok hf1 hone hu hf2
        go_wp2_with fail
        refine (implBurnLeast_any _ _ _ _ _ HI3.out hl' hcc).mono ?_
        rintro e w4 ⟨rfl, hB4⟩
        have hb4 := next hb3 hB4
        have HI4 := hide (HI3.out.below hB4)
        rw [HU.out]
        clear hB4
        go_wp2_with fail
        refine (implBurnLeast_any _ _ _ _ _ HI4.out hl' hcc).mono ?_
        rintro e w5 ⟨rfl, hB5⟩
        have hb5 := next hb4 hB5
        have HI5 := hide (HI4.out.below hB5)
        rw [HS.out]
        clear hB5
        go_wp2_with fail
        refine (lawSumI_any _ _ _ _ HI5.out hl').mono ?_
        rintro e w6 ⟨rfl, rfl⟩
        rw [HSW.out, HS.out]
        go_wp2_with fail
        go_ret
        exact ⟨rfl, hb5⟩
end Go.Proofs.YteloapholoechaaDoor
