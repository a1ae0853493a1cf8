/- For every list of items, every list of numbers and every plan the exact law of PlanCost answers true, and its arguments read as they did.
   Conditions: none. -/
import Derived.Test.YtigclhjkjhkbjabRead2
import Derived.Test.YtigclhjkjhkbjabCost
import Derived.Test.YtigclhjkjhkbjabExItemsValid
namespace Go.Proofs.Ytigclhjkjhkbjab
open Go.RowKit Go.ChangeShapes Go.WideShapes Go.ChangeAt

theorem szGo_top : ∀ (l : List Item) (left : Int), left ≤ 1048576 → szGo left l ≤ 1048576
  | [], _, h => h
  | x :: r, left, h => by
    unfold szGo
    split
    · omega
    · exact szGo_top r _ (by omega)

theorem szL_top (l : List Item) : szL 1048576 l ≤ 1048576 := by
  unfold szL
  split
  · omega
  · exact szGo_top _ _ (by omega)

theorem box_keep {w w' : World} {b : Nat} {u v : Value} (h : w.cell? ⟨b, 0, none⟩ = some u ∧ w.cell? ⟨b, 1, none⟩ = some v ∧ b < w.heap.size) (hB : Below w.heap.size w w') :
    w'.cell? ⟨b, 0, none⟩ = some u ∧ w'.cell? ⟨b, 1, none⟩ = some v ∧ b < w'.heap.size :=
  ⟨(hB.cell h.2.2).trans h.1, (hB.cell h.2.2).trans h.2.1, Nat.lt_of_lt_of_le h.2.2 hB.size⟩

theorem box_drew {w : World} {b : Nat} {u v : Value} (h : w.cell? ⟨b, 0, none⟩ = some u ∧ w.cell? ⟨b, 1, none⟩ = some v ∧ b < w.heap.size) :
    w.drew.cell? ⟨b, 0, none⟩ = some u ∧ w.drew.cell? ⟨b, 1, none⟩ = some v ∧ b < w.drew.heap.size := h

set_option maxHeartbeats 1000000 in
theorem exactPlanCost_any (A A' B B' : Option Addr) (c c' d d' : Nat) (l : List Item) (xs runs left : List Int) (w : World) (hA : ItemsAt w A l) (hl : l.length ≤ 9223372036854775807) (hp : ∀ x ∈ l, x.parts.length ≤ 9223372036854775807)
    (hX : IntsAt w A' xs) (hx : xs.length ≤ 9223372036854775807) (hR : IntsAt w B runs) (hr : runs.length ≤ 9223372036854775807) (hL : IntsAt w B' left) (hf : left.length ≤ 9223372036854775807) :
    Calls Try.prog 10 #[.slice A l.length c, .slice A' xs.length c', .agg #[.slice B runs.length d, .slice B' left.length d']] w fun e w' => e = .returned (.bool true) ∧ Below w.heap.size w w' := by
  have HP := hide hp
  clear hp
  by_cases hx1 : xs.length ≤ 1048576
  · by_cases h : szL 1048576 l < 0
    · go_enter Try.func10, Try.ntmps10
      go_wp2_with fail
      refine (szItemS_any _ _ _ _ (hA.below (by go_grown)) hl HP.out).mono ?_
      rintro e w1 ⟨rfl, hB1⟩
      go_wp2_with fail
      go_ret
      exact ⟨rfl, Below.trans (by go_grown) (hB1.mono (by simp))⟩
    · obtain ⟨hl1, hp1⟩ := szL_le h
      have HP1 := hide hp1
      have hs0 : 0 ≤ szL 1048576 l := by omega
      have hs1 : szL 1048576 l ≤ 1048576 := szL_top l
      clear hp1
      by_cases h2 : szPl (szL 1048576 l) runs.length left.length < 0
      · go_enter Try.func10, Try.ntmps10
        go_wp2_with fail
        refine (szItemS_any _ _ _ _ (hA.below (by go_grown)) hl HP.out).mono ?_
        rintro e w1 ⟨rfl, hB1⟩
        have hb1 : Below w.heap.size w w1 := Below.trans (by go_grown) (hB1.mono (by simp))
        have hc : ∀ o, w1.cell? ⟨w.heap.size, o, none⟩ = _ := fun o => hB1.cell (p := ⟨w.heap.size, o, none⟩) (by simp)
        go_wp2_with fail
        refine (szPlan_any _ _ _ _ _ _ _ _ hs0 hs1 hr hf).mono ?_
        rintro e w2 ⟨rfl, hB2⟩
        go_wp2_with fail
        go_ret
        exact ⟨rfl, next hb1 hB2⟩
      · obtain ⟨hr1, hf1⟩ := szPl_le hs1 h2
        have hbb : (costL l xs runs != costL l xs runs) = false := by simp
        go_enter Try.func10, Try.ntmps10
        go_wp2_with fail
        refine (szItemS_any _ _ _ _ (hA.below (by go_grown)) hl HP.out).mono ?_
        rintro e w1 ⟨rfl, hB1⟩
        have hb1 : Below w.heap.size w w1 := Below.trans (by go_grown) (hB1.mono (by simp))
        have hbx1 : w1.cell? ⟨w.heap.size, 0, none⟩ = some (.slice B runs.length d) ∧ w1.cell? ⟨w.heap.size, 1, none⟩ = some (.slice B' left.length d') ∧ w.heap.size < w1.heap.size := box_keep (by simp) hB1
        have hc1 := hbx1.1
        have hc2 := hbx1.2.1
        go_wp2_with fail
        refine (szPlan_any _ _ _ _ _ _ _ _ hs0 hs1 hr hf).mono ?_
        rintro e w2 ⟨rfl, hB2⟩
        have hb2 := next hb1 hB2
        have hbx2 := box_drew (box_keep hbx1 hB2)
        clear hc1 hc2
        have HX1 := hide hbx1
        clear hbx1
        go_wp2_with fail
        go_region_held3 (fun W => W.cell? ⟨w.heap.size, 0, none⟩ = some (.slice B runs.length d) ∧ W.cell? ⟨w.heap.size, 1, none⟩ = some (.slice B' left.length d') ∧ w.heap.size < W.heap.size)
          (first | exact hbx2 | exact box_keep hbx2 hB3 | exact box_keep (box_keep hbx2 hB3) hB4 | exact box_keep (box_keep (box_keep hbx2 hB3) hB4) hB5 | exact box_keep (box_keep (box_keep (box_keep hbx2 hB3) hB4) hB5) hB6)
          (first
            | (go_at_call 15; refine (toItemS_any _ _ _ _ (hA.below hb2.drew) hl1 HP1.out).mono ?_; rintro e W3 ⟨rfl, hO3, hB3⟩)
            | (go_at_call 30; refine (toIntS_any _ _ _ _ (hX.below (next hb2.drew hB3)) hx1).mono ?_; rintro e W4 ⟨rfl, hO4, hB4⟩)
            | (go_at_call 31; refine (toPlan_any _ _ _ _ _ _ _ (hR.below (next (next hb2.drew hB3) hB4)) (hL.below (next (next hb2.drew hB3) hB4)) hr1 hf1).mono ?_; rintro e W5 ⟨g5, rfl, hg5, hO5, hO5', hB5⟩)
            | (go_at_call 40; refine (specPlanCost_any _ _ _ _ _ _ _ _ _ _ _ _ _ ((hO3.below hB4).below hB5).at_ hl1 HP1.out (hO4.below hB5).at_ hx1 hO5.at_ hr1).mono ?_; rintro e W6 ⟨rfl, hB6⟩))
        have hb6 := next (next (next (next hb2.drew hB3) hB4) hB5) hB6
        have hbx6 := box_keep (box_keep (box_keep (box_keep hbx2 hB3) hB4) hB5) hB6
        clear hbx2 hO3 hO4 hO5 hO5' hg5 hB3 hB4 hB5 hB6 hB1 hB2 hb1 hb2
        go_wp2_with fail
        refine (toItemS_any _ _ _ _ (hA.below hb6) hl1 HP1.out).mono ?_
        rintro e w7 ⟨rfl, hO7, hB7⟩
        have hb7 := next hb6 hB7
        have hbx7 := box_keep hbx6 hB7
        clear hbx6
        go_wp2_with fail
        refine (toIntS_any _ _ _ _ (hX.below hb7) hx1).mono ?_
        rintro e w8 ⟨rfl, hO8, hB8⟩
        have hb8 := next hb7 hB8
        have hbx8 := box_keep hbx7 hB8
        have hO78 := hO7.below hB8
        have hd1 := hbx8.1
        have hd2 := hbx8.2.1
        have HX8 := hide hbx8
        clear hbx7 hbx8 hO7 hB7 hB8 hb6 hb7
        go_wp2_with fail
        refine (toPlan_any _ _ _ _ _ _ _ (hR.below hb8) (hL.below hb8) hr1 hf1).mono ?_
        rintro e w9 ⟨g9, rfl, hg9, hO9, hO9', hB9⟩
        have hb9 := next hb8 hB9
        have hbx9 := box_keep HX8.out hB9
        have hO79 := hO78.below hB9
        have hO89 := hO8.below hB9
        clear hd1 hd2 hO78 hO8 hg9
        go_wp2_with fail
        have hBa : Below w9.heap.size w9 (w9.alloc (.cells #[.slice (some ⟨w8.heap.size + 3, 0, none⟩) runs.length runs.length, .slice (some ⟨g9, 0, none⟩) left.length left.length] 40)) := by go_grown
        have hb10 := next hb9 hBa
        refine (implPlanCost_any _ _ _ _ _ _ _ _ _ _ _ _ _ (hO79.below hBa).at_ hl1 HP1.out (hO89.below hBa).at_ hx1 (hO9.below hBa).at_ hr1).mono ?_
        rintro e w11 ⟨rfl, hB11⟩
        have hbx11 := box_keep (box_keep hbx9 hBa) hB11
        have hby11 : w11.cell? ⟨w9.heap.size, 0, none⟩ = some (.slice (some ⟨w8.heap.size + 3, 0, none⟩) runs.length runs.length) ∧ w11.cell? ⟨w9.heap.size, 1, none⟩ = some (.slice (some ⟨g9, 0, none⟩) left.length left.length) ∧ w9.heap.size < w11.heap.size := box_keep (by simp) hB11
        have hb11 := next hb10 hB11
        have hO711 := (hO79.below hBa).below hB11
        have hO811 := (hO89.below hBa).below hB11
        have hO911 := (hO9.below hBa).below hB11
        have hO911' := (hO9'.below hBa).below hB11
        clear hbx9 hO79 hO89 hO9 hO9' hb8 hb9 hb10 hB9
        go_wp2_with fail
        refine (toItemS_any _ _ _ _ (hA.below hb11) hl1 HP1.out).mono ?_
        rintro e w12 ⟨rfl, hO12, hB12⟩
        go_wp2_with fail
        refine (eqItemS_same _ _ _ _ _ _ (hO711.below hB12).at_ hO12.at_ hl1 HP1.out).mono ?_
        rintro e w13 ⟨rfl, hB13⟩
        have hb13 := next (next hb11 hB12) hB13
        have hbx13 := box_keep (box_keep hbx11 hB12) hB13
        have hby13 := box_keep (box_keep hby11 hB12) hB13
        have hO813 := (hO811.below hB12).below hB13
        have hO913 := (hO911.below hB12).below hB13
        have hO913' := (hO911'.below hB12).below hB13
        clear hbx11 hby11 hO711 hO811 hO911 hO911' hO12 hB12 hB13
        go_wp2_with fail
        refine (toIntS_any _ _ _ _ (hX.below hb13) hx1).mono ?_
        rintro e w14 ⟨rfl, hO14, hB14⟩
        go_wp2_with fail
        refine (eqIntS_same _ _ _ _ _ _ (hO813.below hB14).at_ hO14.at_ hx1).mono ?_
        rintro e w15 ⟨rfl, hB15⟩
        have hb15 := next (next hb13 hB14) hB15
        have hbx15 := box_drew (box_keep (box_keep hbx13 hB14) hB15)
        have hby15 := box_drew (box_keep (box_keep hby13 hB14) hB15)
        have hO915 := (hO913.below hB14).below hB15
        have hO915' := (hO913'.below hB14).below hB15
        clear hbx13 hby13 hO813 hO913 hO913' hO14 hB14 hB15
        go_wp2_with fail
        go_region_held3 (fun W => (W.cell? ⟨w.heap.size, 0, none⟩ = some (.slice B runs.length d) ∧ W.cell? ⟨w.heap.size, 1, none⟩ = some (.slice B' left.length d') ∧ w.heap.size < W.heap.size) ∧
            (W.cell? ⟨w9.heap.size, 0, none⟩ = some (.slice (some ⟨w8.heap.size + 3, 0, none⟩) runs.length runs.length) ∧ W.cell? ⟨w9.heap.size, 1, none⟩ = some (.slice (some ⟨g9, 0, none⟩) left.length left.length) ∧ w9.heap.size < W.heap.size))
          (first | exact ⟨hbx15, hby15⟩ | exact ⟨box_keep hbx15 hB16, box_keep hby15 hB16⟩ | exact ⟨box_keep (box_keep hbx15 hB16) hB17, box_keep (box_keep hby15 hB16) hB17⟩)
          (first
            | (go_at_call 31; refine (toPlan_any _ _ _ _ _ _ _ (hR.below hb15.drew) (hL.below hb15.drew) hr1 hf1).mono ?_; rintro e W16 ⟨g16, rfl, hg16, hO16, hO16', hB16⟩)
            | (go_at_call 33; refine (eqPlan_same _ _ _ _ _ _ _ _ _ _ _ ((OwnInts.below (w := w15.drew) hO915 hB16)).at_ ((OwnInts.below (w := w15.drew) hO915' hB16)).at_ hO16.at_ hO16'.at_ hr1 hf1).mono ?_; rintro e W17 ⟨rfl, hB17⟩))
        have hb17 := next (next hb15.drew hB16) hB17
        go_wp2_with fail
        go_ret
        exact ⟨rfl, hb17⟩
  · go_enter Try.func10, Try.ntmps10
    go_wp2_with fail
    go_ret
    exact ⟨rfl, by go_grown⟩

theorem exactPlanCost_contract (H : Type) (enc : TypeId × Value → H) (W : World) (base : Nat) (args : Array Value) (ds gs : List (DataW H)) (before : List MemPlace)
    (hval : ∀ (j : Nat) t v, Try.f10.params[j]? = some t → args[j]? = some v → Value.okWide Try.prog W .any base t v)
    (hW : DataW.Whole enc Try.prog Try.f10.params.toList Rows.fnExactPlanCostSpec.vars false W args.toList ds gs before) :
    Calls Try.prog 10 args W fun e W' => ∃ v, e = .returned v ∧ Rows.fnExactPlanCostSpec.post enc Try.prog Try.f10 false true false false W args v W' := by
  have hW' := hW
  obtain ⟨p, q, hA, hV, rfl, _, _⟩ := hW
  obtain ⟨rfl, rfl⟩ := trodVars_none hV
  rw [Try.params10] at hA
  obtain ⟨v0, vs0, d0, ds0, p0, q0, hargs, rfl, rfl, h0, r0⟩ := trodAll_cons hA
  obtain ⟨v1, vs1, d1, ds1, p1, q1, rfl, rfl, rfl, h1, r1⟩ := trodAll_cons r0
  obtain ⟨v2, vs2, d2, ds2, p2, q2, rfl, rfl, rfl, h2, r2⟩ := trodAll_cons r1
  obtain ⟨rfl, rfl, rfl⟩ := trodAll_nil r2
  obtain rfl : args = #[v0, v1, v2] := by cases args; simp_all
  obtain ⟨a0, len0, cap0, rfl⟩ := okWide_slice Try.underlying22 (hval 0 22 v0 rfl rfl)
  obtain ⟨fuel0, hf0⟩ := h0
  obtain ⟨A0, c0, l0, hcs0, hI0, hl0, hp0⟩ := open_items hf0
  simp [Value.cells] at hcs0
  obtain ⟨rfl, rfl, rfl⟩ := hcs0
  obtain ⟨a1, len1, cap1, rfl⟩ := okWide_slice Try.underlying31 (hval 1 31 v1 rfl rfl)
  obtain ⟨fuel1, hf1⟩ := h1
  obtain ⟨A1, c1, l1, hcs1, hI1, hl1⟩ := open_numbers hf1
  simp [Value.cells] at hcs1
  obtain ⟨rfl, rfl, rfl⟩ := hcs1
  obtain ⟨A2, c2, l2, B2, e2, m2, rfl, hI2, hJ2, hl2, hm2⟩ := open_plan (hval 2 36 v2 rfl rfl) h2
  refine (exactPlanCost_any _ _ _ _ _ _ _ _ _ _ _ _ W hI0 hl0 hp0 hI1 hl1 hI2 hl2 hJ2 hm2).mono fun e W' ⟨he, hb⟩ => ?_
  subst he
  have hts : ∀ t ∈ Try.f10.params.toList, Try.prog.readableRec t = true ∧ t < Try.prog.types.size := by
    rw [Try.params10]
    intro t ht
    simp only [List.mem_cons, List.not_mem_nil, or_false] at ht
    rcases ht with rfl | rfl | rfl <;> exact ⟨by kernel_rfl, of_decide_eq_true (by kernel_rfl)⟩
  exact ⟨_, rfl, post_true hW' rfl rfl Try.underlying4 hts rfl rfl rfl hb⟩

set_option maxRecDepth 100000 in
theorem exactPlanCost_holds : Rows.FnExactPlanCostSaid :=
  OpenClaim.holds_of_wide 10 Try.f10 rfl rfl rfl rfl rfl rfl rfl ⟨rfl, rfl, rfl, rfl, rfl⟩ rfl rfl rfl rfl rfl (by kernel_rfl) Try.func10 (by kernel_rfl)
    (of_decide_eq_true (by kernel_rfl)) (by unfold Func.isWrapper; first | (rw [if_pos (by decide +kernel)]; kernel_rfl) | (rw [if_neg (by decide +kernel)]; exact ⟨rfl, rfl⟩))
    (fun os started H enc _ => returnsInHanded_of_change (C := Try.checked) own started (by kernel_rfl) Try.func10
      (ChangeSpec.witness6 (enc := enc) (C := Try.checked) false ⟨#[], #[.slice none 0 0, .slice none 0 0, .agg #[.slice none 0 0, .slice none 0 0]], []⟩ 8 (by kernel_rfl) (by kernel_rfl) (by kernel_rfl) (by kernel_rfl))
      (fun W base args ds gs before hval hW _ _ => exactPlanCost_contract H enc W base args ds gs before hval hW))
end Go.Proofs.Ytigclhjkjhkbjab
