/- For all drawn bytes the law of FlowLeast answers true, and its argument reads as it did.
   Conditions: none. -/
import Derived.Test.YteloapholoechaaDoorLawKit
import Derived.Test.YteloapholoechaaDoorDrawDishes
import Derived.Test.YteloapholoechaaDoorFlow5
namespace Go.Proofs.YteloapholoechaaDoor
open Go.RowKit Go.ChangeShapes Go.WideShapes Go.ChangeAt

def DrawnDishF (w : World) (e : Ending) (w' : World) : Prop := ∃ (ls : List Dish) (g c : Nat), e = .returned (.slice (some ⟨g, 0, none⟩) ls.length c) ∧ DishesAt w' (some ⟨g, 0, none⟩) ls ∧ ls.length ≤ 7 ∧ Below w.heap.size w w'

set_option maxHeartbeats 1000000 in
theorem drawFlowLeast_any (A : Option Addr) (c m : Nat) (w : World) (hB : BytesIn w A m) (hm : m ≤ 9223372036854775807) (hc : m ≤ c) (hc2 : c ≤ 9223372036854775807) :
    Calls Tryd.prog 25 #[.slice A m c] w (DrawnDishF w) := by
  go_enter Tryd.func25, Tryd.ntmps25
  go_wp2_with fail
  refine (open_any A c m w hB hm hc hc2).mono ?_
  rintro e w1 ⟨rfl, hR1, hb1⟩
  have hz1 := hb1.size
  go_wp2_with fail
  refine (l20Dishes_any w.heap.size 0 9 _ hR1 (by omega) (by omega)).mono ?_
  rintro e w2 ⟨ls, g, c2, rfl, hS2, hl, hR2, hg2⟩
  have hb2 : Below w.heap.size w w2 := hb1.grown hg2 hz1 (fun j hj => by injection hj with hj; omega)
  have HI := hide (DishSl.dishes hS2)
  clear hS2 hg2
  go_wp2_with fail
  refine bodyPost_ret (results_tmp rfl _ _ _) rfl ⟨ls, g, c2, rfl, HI.out, hl, hb2⟩

set_option maxHeartbeats 1000000 in
theorem drawFlowBest_any (A : Option Addr) (c m : Nat) (w : World) (hB : BytesIn w A m) (hm : m ≤ 9223372036854775807) (hc : m ≤ c) (hc2 : c ≤ 9223372036854775807) :
    Calls Tryd.prog 19 #[.slice A m c] w (DrawnDishF w) := by
  go_enter Tryd.func19, Tryd.ntmps19
  go_wp2_with fail
  refine (open_any A c m w hB hm hc hc2).mono ?_
  rintro e w1 ⟨rfl, hR1, hb1⟩
  have hz1 := hb1.size
  go_wp2_with fail
  refine (l20Dishes_any w.heap.size 0 9 _ hR1 (by omega) (by omega)).mono ?_
  rintro e w2 ⟨ls, g, c2, rfl, hS2, hl, hR2, hg2⟩
  have hb2 : Below w.heap.size w w2 := hb1.grown hg2 hz1 (fun j hj => by injection hj with hj; omega)
  have HI := hide (DishSl.dishes hS2)
  clear hS2 hg2
  go_wp2_with fail
  refine bodyPost_ret (results_tmp rfl _ _ _) rfl ⟨ls, g, c2, rfl, HI.out, hl, hb2⟩

theorem sum_dishes {l : List Dish} (f : Dish → Int) {k : Nat} {x : Dish} {p : Int} (hx : l[k]? = some x) (h : sumL (l.map f) = p + sumL ((l.drop k).map f)) : sumL (l.map f) = (p + f x) + sumL ((l.drop (k + 1)).map f) := by
  obtain ⟨hk, e⟩ := List.getElem?_eq_some_iff.1 hx
  rw [h, List.drop_eq_getElem_cons hk, e, List.map_cons, sumL]
  omega

set_option maxRecDepth 100000 in
set_option maxHeartbeats 4000000 in
theorem lawFlowLeast_any (A : Option Addr) (c m : Nat) (w : World) (hB : BytesIn w A m) (hc : m ≤ c) (hc2 : c ≤ 9223372036854775807) :
    Calls Tryd.prog 5 #[.slice A m c] w fun e w' => e = .returned (.bool true) ∧ Below w.heap.size w w' := by
  by_cases hlen : (1048576 : Int) < m
  · go_enter Tryd.func5, Tryd.ntmps5
    go_wp2_with fail
    go_ret
    exact ⟨rfl, by go_grown⟩
  · go_enter Tryd.func5, Tryd.ntmps5
    go_wp2_with fail
    refine (drawFlowLeast_any A c m w hB (by omega) hc hc2).mono ?_
    rintro e w1 ⟨xs, g, c1, rfl, hI, hl, hb1⟩
    have hl' : xs.length ≤ 1048576 := by omega
    have HI := hide hI
    clear hI
    obtain ⟨v, HV⟩ : ∃ v, Hid (flowEndL xs (flowBestL xs) = v) := ⟨_, hide rfl⟩
    have hbb : (v != v) = false := by simp
    go_wp2_with fail
    refine (implFlowLeast_any _ _ _ _ HI.out hl').mono ?_
    rintro e w2 ⟨rfl, hB2⟩
    have hb2 := next hb1 hB2
    have HI2 := hide (HI.out.below hB2)
    rw [HV.out]
    clear hB2 HI
    go_wp2_with fail
    refine (specFlowLeast_any _ _ _ _ HI2.out hl').mono ?_
    rintro e w3 ⟨rfl, hB3⟩
    have hb3 := next hb2 hB3
    have HI3 := hide (HI2.out.below hB3)
    rw [HV.out]
    clear hB3 HI2
    cases hok : dishesOk xs with
    | false =>
      obtain rfl : v = -1 := by rw [← HV.out]; unfold flowEndL flowFit; rw [hok]; rfl
      go_wp2_with fail
      refine (alive_any _).mono ?_
      rintro e w6 ⟨rfl, hB6⟩
      go_wp2_with fail
      go_ret
      exact ⟨rfl, next hb3 hB6⟩
    | true =>
      obtain ⟨q1, q2, q3, q4, q5⟩ := flowLeast_said hok
      rw [HV.out] at q1 q2 q3 q4 q5
      have HQ := hide q5
      have HOK := hide hok
      obtain ⟨SP, hSP⟩ : ∃ s, sumL (xs.map (·.prep)) = s := ⟨_, rfl⟩
      obtain ⟨SC, hSC⟩ : ∃ s, sumL (xs.map (·.cook)) = s := ⟨_, rfl⟩
      rw [hSP] at q2 q4
      rw [hSC] at q3 q4
      have HSP := hide hSP
      have HSC := hide hSC
      clear hSP hSC q5 hok
      go_wp2_with fail
      go_loopw [5, 6, 7] (fun pv cv iv wr => ∃ (j : Nat) (p c : Int), j ≤ xs.length ∧ iv = .int .i64 (j : Int) ∧ pv = .int .i64 p ∧ cv = .int .i64 c ∧ 0 ≤ p ∧ p ≤ 30 * j ∧ 0 ≤ c ∧ c ≤ 30 * j ∧ Hid (SP = p + sumL ((xs.drop j).map (·.prep)) ∧ SC = c + sumL ((xs.drop j).map (·.cook))) ∧ Below w3.heap.size w3 wr) (fun _ _ iv _ => xs.length - (intOf iv).toNat)
      case atStart => exact ⟨0, 0, 0, Nat.zero_le _, rfl, rfl, rfl, by omega, by omega, by omega, by omega, hide ⟨by rw [← HSP.out]; simp, by rw [← HSC.out]; simp⟩, Below.refl _ _⟩
      case round =>
        obtain ⟨j, p, cc, hj, rfl, rfl, rfl, hp0, hp1, hc0, hc1, HS, hd⟩ := hrel
        have hb := next hb3 hd
        have hsz := hd.size
        by_cases hlt : j < xs.length
        · have hx := List.getElem?_eq_getElem hlt
          obtain ⟨b, off, hDD, hbl, hcp, hcc⟩ := (HI3.out.below hd) j xs[j] hx
          injection hDD with hDD
          injection hDD with e1 e2
          subst e1 e2
          rw [Nat.zero_add] at hcp hcc
          have hle := HQ.out _ (List.getElem_mem hlt)
          obtain ⟨r0, r1, r2, r3⟩ := dishesOk_at HOK.out (List.getElem_mem hlt)
          have HS2 : Hid (SP = (p + xs[j].prep) + sumL ((xs.drop (j + 1)).map (·.prep)) ∧ SC = (cc + xs[j].cook) + sumL ((xs.drop (j + 1)).map (·.cook))) := hide (by
            have a1 := HSP.out ▸ HS.out.1
            have a2 := HSC.out ▸ HS.out.2
            have b1 := sum_dishes (·.prep) hx (HSP.out.trans HS.out.1)
            have b2 := sum_dishes (·.cook) hx (HSC.out.trans HS.out.2)
            exact ⟨HSP.out.symm.trans b1, HSC.out.symm.trans b2⟩)
          generalize xs[j] = x at *
          obtain ⟨xp, xc⟩ := x
          simp only at hcp hcc hle r0 r1 r2 r3 HS2
          have hz : (0 : Int) ≤ j := by omega
          have hz2 : (j : Int) < xs.length := by omega
          have hwr : IntKind.i64.wrap (xp + xc) = xp + xc := IntWalk.i64_in _ (by omega)
          have hg : decide (v < xp + xc) = false := decide_eq_false (by omega)
          clear hx
          go_wp2_with fail
          go_quiet (fail)
          go_wp2_with fail
          go_roundw
          case rel => exact ⟨j + 1, p + xp, cc + xc, hlt, by go_num, rfl, rfl, by omega, by omega, by omega, by omega, HS2, below_drewN hd _⟩
          case measure => simp [intOf]; omega
        · have hz2 : ¬ (j : Int) < xs.length := by omega
          obtain ⟨e1, e2⟩ : SP = p ∧ SC = cc := by
            have a := HS.out
            rw [List.drop_of_length_le (by omega)] at a
            simpa [sumL] using a
          have g1 : p ≤ v := by omega
          have g2 : cc ≤ v := by omega
          have g3 : v ≤ p + cc := by omega
          clear e1 e2 HSP HSC
          go_wp2_with fail
          go_ret
          exact ⟨rfl, hb⟩
end Go.Proofs.YteloapholoechaaDoor
