/- For all drawn bytes the law of BurnOk answers true, and its argument reads as it did.
   Conditions: none. -/
import Derived.Test.YteocmjffjinphaaDoorLawKit
import Derived.Test.YteocmjffjinphaaDoorDrawBurn
import Derived.Test.YteocmjffjinphaaDoorCook1
namespace Go.Proofs.YteocmjffjinphaaDoor
open Go.RowKit Go.ChangeShapes Go.WideShapes Go.ChangeAt

theorem burn_zeros {xs os : List Int} {b : Int} (h : burnOkL xs b os = true) : burnOkL xs b (tab os.length (fun _ => 0)) = true := by
  unfold burnOkL burnFit at *
  simp only [Bool.and_eq_true, decide_eq_true_eq, inR_iff] at h
  have hr : rangeOk (b - 1) (tab os.length (fun _ => 0)) = true := by
    unfold rangeOk
    rw [List.all_eq_true]
    intro x hx
    obtain ⟨j, _, rfl⟩ := List.mem_map.1 hx
    exact inR_iff.2 ⟨Int.le_refl _, by omega⟩
  rw [tab_len, h.1.1, hr, decide_eq_true h.2.1, inR_iff.2 h.1.2]
  rfl
theorem implBurnOk_at (A B : Option Addr) (c d n : Nat) (xs : List Int) (b : Int) (os : List Int) (v : Bool) (w : World) (hn : os.length = n) (hb : Hid (burnOkL xs b os = v)) (hA : IntsAt w A xs) (hl : xs.length ≤ 1048576) (hB : IntsAt w B os) (hm : n ≤ 1048576) :
    Calls Tryd.prog 27 #[.slice A xs.length c, .int .i64 b, .slice B n d] w fun e w' => e = .returned (.bool v) ∧ Below w.heap.size w w' := by
  subst hn
  have := implBurnOk_any A B c d xs b os w hA hl hB hm
  rwa [hb.out] at this

def DrawnBurn (w : World) (e : Ending) (w' : World) : Prop := ∃ (xs os : List Int) (s : Int) (g c g2 c2 : Nat), e = .returned (.tuple #[.slice (some ⟨g, 0, none⟩) xs.length c, .int .i64 s, .slice (some ⟨g2, 0, none⟩) os.length c2]) ∧ IntsAt w' (some ⟨g, 0, none⟩) xs ∧ IntsAt w' (some ⟨g2, 0, none⟩) os ∧ xs.length ≤ 7 ∧ os.length ≤ 8 ∧ -2 ≤ s ∧ s ≤ 6 ∧ Below w.heap.size w w'

set_option maxHeartbeats 1000000 in
theorem drawBurnOk_any (A : Option Addr) (c m : Nat) (w : World) (hB : BytesIn w A m) (hm : m ≤ 9223372036854775807) (hc : m ≤ c) (hc2 : c ≤ 9223372036854775807) :
    Calls Tryd.prog 26 #[.slice A m c] w (DrawnBurn w) := by
  go_enter Tryd.func26, Tryd.ntmps26
  go_wp2_with fail
  refine (open_any A c m w hB hm hc hc2).mono ?_
  rintro e w1 ⟨rfl, hR1, hb1⟩
  have hz1 := hb1.size
  go_wp2_with fail
  refine (l20Burn_any w.heap.size 0 _ hR1 (by omega)).mono ?_
  rintro e w2 ⟨xs, os, s, g, c2, g2, c3, rfl, hS2, hO2, hl, hol, hs0, hs1, hg2⟩
  have hb2 : Below w.heap.size w w2 := hb1.grown hg2 hz1 (fun j hj => by injection hj with hj; omega)
  have HI := hide hS2.ints
  have HO := hide hO2.ints
  clear hS2 hg2 hO2
  go_wp2_with fail
  refine bodyPost_ret (results_tmp3 rfl _ _ _) rfl ⟨xs, os, s, g, c2, g2, c3, rfl, HI.out, HO.out, hl, hol, hs0, hs1, hb2⟩

set_option maxRecDepth 100000 in
set_option maxHeartbeats 4000000 in
theorem lawBurnOk_any (A : Option Addr) (c m : Nat) (w : World) (hB : BytesIn w A m) (hc : m ≤ c) (hc2 : c ≤ 9223372036854775807) :
    Calls Tryd.prog 6 #[.slice A m c] w fun e w' => e = .returned (.bool true) ∧ Below w.heap.size w w' := by
  by_cases hlen : (1048576 : Int) < m
  · go_enter Tryd.func6, Tryd.ntmps6
    go_wp2_with fail
    go_ret
    exact ⟨rfl, by go_grown⟩
  · go_enter Tryd.func6, Tryd.ntmps6
    go_wp2_with fail
    refine (drawBurnOk_any A c m w hB (by omega) hc hc2).mono ?_
    rintro e w1 ⟨xs, os, s, g, c1, g2, c2, rfl, hI, hJ, hl, hol, -, -, hb1⟩
    have hl' : xs.length ≤ 1048576 := by omega
    have ho' : os.length ≤ 1048576 := by omega
    have HI := hide hI
    have HJ := hide hJ
    clear hI hJ
    obtain ⟨v, HV⟩ : ∃ v, Hid (burnOkL xs s os = v) := ⟨_, hide rfl⟩
    have hbb : (v != v) = false := by simp
    go_wp2_with fail
    refine (implBurnOk_any _ _ _ _ _ _ _ _ HI.out hl' HJ.out ho').mono ?_
    rintro e w2 ⟨rfl, hB2⟩
    have hb2 := next hb1 hB2
    have HI2 := hide (HI.out.below hB2)
    have HJ2 := hide (HJ.out.below hB2)
    rw [HV.out]
    clear hB2 HI HJ
    go_wp2_with fail
    refine (specBurnOk_any _ _ _ _ _ _ _ _ HI2.out hl' HJ2.out ho').mono ?_
    rintro e w3 ⟨rfl, hB3⟩
    have hb3 := next hb2 hB3
    have HI3 := hide (HI2.out.below hB3)
    rw [HV.out]
    clear hB3 HI2 HJ2
    cases v with
    | false =>
      go_wp2_with fail
      refine (alive_any _).mono ?_
      rintro e w6 ⟨rfl, hB6⟩
      go_wp2_with fail
      go_ret
      exact ⟨rfl, next hb3 hB6⟩
    | true =>
      have hmk := make_ints os.length ho'
      have hsz := hb3.size
      have HZI := hide (zeros_tabG w3 (lo := w3.heap.size) os.length (Nat.le_refl _) ho').ints
      have HIA := hide (HI3.out.below (w' := w3.alloc (.cells (madeCells #[.int .i64 0] os.length) 3)) (by go_grown))
      go_wp2_with fail
      refine (implBurnOk_at _ _ _ _ _ _ _ (tab os.length (fun _ => 0)) true _ (tab_len _ _) (hide (burn_zeros HV.out)) HIA.out hl' HZI.out ho').mono ?_
      rintro e w4 ⟨rfl, hB4⟩
      have hb4 : Below w.heap.size w w4 := next (wr := w3.alloc (.cells (madeCells #[.int .i64 0] os.length) 3)) (by go_grown) hB4
      go_wp2_with fail
      refine (alive_any _).mono ?_
      rintro e w6 ⟨rfl, hB6⟩
      go_wp2_with fail
      go_ret
      exact ⟨rfl, next hb4 hB6⟩
end Go.Proofs.YteocmjffjinphaaDoor
