/- For every list of items, every list of numbers and every plan the exact law of MakeRun answers true, and its arguments read as they did.
   Conditions: none. -/
import Derived.Test.YteloapholoechaaRead2
import Derived.Test.YteloapholoechaaExKit
import Derived.Test.YteloapholoechaaMarkPlan
import Derived.Test.YteloapholoechaaLots
import Derived.Test.YteloapholoechaaPrices
import Derived.Test.YteloapholoechaaMakeRunI
import Derived.Test.YteloapholoechaaMakeRunS
import Derived.Test.YteloapholoechaaMakeMath2
namespace Go.Proofs.Yteloapholoechaa
open Go.RowKit Go.ChangeShapes Go.WideShapes Go.ChangeAt

theorem makeRun_lenX (l : List Item) (stock rs : List Int) (h : l.length ≤ 1048576) : ((makeRunL l stock rs).getD []).length ≤ 1048576 := by
  cases e : makeRunL l stock rs with
  | none => simp
  | some now =>
    have := (makeRun_some e).1
    simp only [Option.getD_some]
    omega
theorem cells_of {w w' : World} {b : Nat} {u v : Value} (h : w.cell? ⟨b, 0, none⟩ = some u ∧ w.cell? ⟨b, 1, none⟩ = some v ∧ b < w.heap.size) (hb : w'.heap[b]? = w.heap[b]?) (hs : w.heap.size ≤ w'.heap.size) :
    w'.cell? ⟨b, 0, none⟩ = some u ∧ w'.cell? ⟨b, 1, none⟩ = some v ∧ b < w'.heap.size :=
  ⟨(World.cell?_of_block (a := ⟨b, 0, none⟩) hb).trans h.1, (World.cell?_of_block (a := ⟨b, 1, none⟩) hb).trans h.2.1, by omega⟩

set_option maxRecDepth 100000 in
set_option maxHeartbeats 4000000 in
theorem exactMakeRun_any (A0 A1 A2 B2 : Option Addr) (c0 c1 c2 d2 : Nat) (x0 : List Item) (x1 x2 y2 : List Int) (w : World) (hA0 : ItemsAt w A0 x0) (hl0 : x0.length ≤ 9223372036854775807) (hp0 : ∀ x ∈ x0, x.parts.length ≤ 9223372036854775807) (hA1 : IntsAt w A1 x1) (hl1 : x1.length ≤ 9223372036854775807) (hA2 : IntsAt w A2 x2) (hl2 : x2.length ≤ 9223372036854775807) (hC2 : IntsAt w B2 y2) (hm2 : y2.length ≤ 9223372036854775807) :
    Calls Try.prog 4 #[.slice A0 x0.length c0, .slice A1 x1.length c1, .agg #[.slice A2 x2.length c2, .slice B2 y2.length d2]] w fun e w' => e = .returned (.bool true) ∧ Below w.heap.size w w' := by
  have HP0 := hide hp0
  clear hp0
  by_cases hl1s : x1.length ≤ 1048576
  · by_cases h0z : szL 1048576 x0 < 0
    · go_enter Try.func4, Try.ntmps4
      go_wp2_with fail
      refine (szItemS_any _ _ _ _ (hA0.below (by go_grown)) hl0 HP0.out).mono ?_
      rintro e w1 ⟨rfl, hB1⟩
      have hb1 : Below w.heap.size w w1 := Below.trans (by go_grown) (hB1.mono (by simp))
      have hx2_1 : w1.cell? ⟨w.heap.size, 0, none⟩ = some (.slice A2 x2.length c2) ∧ w1.cell? ⟨w.heap.size, 1, none⟩ = some (.slice B2 y2.length d2) ∧ w.heap.size < w1.heap.size := box_keep (by simp) hB1
      go_wp2_with fail
      go_ret
      exact ⟨rfl, hb1⟩
    · obtain ⟨hl0s, hp0s⟩ := szL_le h0z
      have HQ0 := hide hp0s
      clear hp0s
      have hs0 : 0 ≤ szL 1048576 x0 := by omega
      have hs1 : szL 1048576 x0 ≤ 1048576 := szL_top x0
      by_cases h2z : szPl (szL 1048576 x0) x2.length y2.length < 0
      · go_enter Try.func4, Try.ntmps4
        go_wp2_with fail
        refine (szItemS_any _ _ _ _ (hA0.below (by go_grown)) hl0 HP0.out).mono ?_
        rintro e w1 ⟨rfl, hB1⟩
        have hb1 : Below w.heap.size w w1 := Below.trans (by go_grown) (hB1.mono (by simp))
        have hx2_1 : w1.cell? ⟨w.heap.size, 0, none⟩ = some (.slice A2 x2.length c2) ∧ w1.cell? ⟨w.heap.size, 1, none⟩ = some (.slice B2 y2.length d2) ∧ w.heap.size < w1.heap.size := box_keep (by simp) hB1
        have hy2 := hx2_1.1
        have hz2 := hx2_1.2.1
        go_wp2_with fail
        clear hy2 hz2
        have hy2 := hx2_1.1
        have hz2 := hx2_1.2.1
        refine (szPlan_any _ _ _ _ _ _ _ _ hs0 hs1 hl2 hm2).mono ?_
        rintro e w2 ⟨rfl, hB2⟩
        have hb2 := next hb1 hB2
        have hx2_2 := box_keep hx2_1 hB2
        clear hx2_1
        clear hy2 hz2
        go_wp2_with fail
        go_ret
        exact ⟨rfl, hb2⟩
      · obtain ⟨hl2s, hm2s⟩ := szPl_le hs1 h2z
        obtain ⟨xs, HX⟩ : ∃ xs, Hid ((makeRunL x0 x1 x2).getD [] = xs) := ⟨_, hide rfl⟩
        obtain ⟨ok, HK⟩ : ∃ ok, Hid ((makeRunL x0 x1 x2).isSome = ok) := ⟨_, hide rfl⟩
        have hbb : (ok != ok) = false := by simp
        have hn : xs.length ≤ 1048576 := by rw [← HX.out]; exact makeRun_lenX _ _ _ hl0s
        have hne : (1 + (xs.length : Int) != 1 + (xs.length : Int)) = false := by simp
        go_enter Try.func4, Try.ntmps4
        go_wp2_with fail
        refine (szItemS_any _ _ _ _ (hA0.below (by go_grown)) hl0 HP0.out).mono ?_
        rintro e w1 ⟨rfl, hB1⟩
        have hb1 : Below w.heap.size w w1 := Below.trans (by go_grown) (hB1.mono (by simp))
        have hx2_1 : w1.cell? ⟨w.heap.size, 0, none⟩ = some (.slice A2 x2.length c2) ∧ w1.cell? ⟨w.heap.size, 1, none⟩ = some (.slice B2 y2.length d2) ∧ w.heap.size < w1.heap.size := box_keep (by simp) hB1
        have hy2 := hx2_1.1
        have hz2 := hx2_1.2.1
        go_wp2_with fail
        clear hy2 hz2
        have hy2 := hx2_1.1
        have hz2 := hx2_1.2.1
        refine (szPlan_any _ _ _ _ _ _ _ _ hs0 hs1 hl2 hm2).mono ?_
        rintro e w2 ⟨rfl, hB2⟩
        have hb2 := next hb1 hB2
        have hx2_2 := box_keep hx2_1 hB2
        clear hx2_1
        clear hy2 hz2
        go_wp2_with fail
        have hx2_d := box_drew hx2_2
        have HXO := hide hx2_2
        clear hx2_2
        go_region_held3 (fun W => W.cell? ⟨w.heap.size, 0, none⟩ = some (.slice A2 x2.length c2) ∧ W.cell? ⟨w.heap.size, 1, none⟩ = some (.slice B2 y2.length d2) ∧ w.heap.size < W.heap.size)
          (first | exact hx2_d | exact box_keep (hx2_d) hB3 | exact box_keep (box_keep (hx2_d) hB3) hB4 | exact box_keep (box_keep (box_keep (hx2_d) hB3) hB4) hB5 | exact box_keep (box_keep (box_keep (box_keep (hx2_d) hB3) hB4) hB5) hB6)
          (first | (go_at_call 7; (with_reducible refine (toItemS_any _ _ _ _ (hA0.below (hb2.drew)) hl0s HQ0.out).mono ?_); rintro e W3 ⟨rfl, hO0_3, hB3⟩) | (go_at_call 8; (with_reducible refine (toIntS_any _ _ _ _ (hA1.below (next (hb2.drew) hB3)) hl1s).mono ?_); rintro e W4 ⟨rfl, hO1_4, hB4⟩) | (go_at_call 19; (with_reducible refine (toPlan_any _ _ _ _ _ _ _ (hA2.below (next (next (hb2.drew) hB3) hB4)) (hC2.below (next (next (hb2.drew) hB3) hB4)) hl2s hm2s).mono ?_); rintro e W5 ⟨g2_5, rfl, hg2_5, hO2_5, hU2_5, hB5⟩) | (go_at_call 18; refine (specMakeRun_any _ _ _ _ _ _ _ _ _ _ _ _ _ (((hO0_3).below hB4).below hB5).at_ hl0s HQ0.out ((hO1_4).below hB5).at_ hl1s (hO2_5).at_ hl2s).mono ?_; rintro e W6 ⟨v0, rfl, hS0, hB6⟩; rw [HX.out] at hS0; rw [HK.out]; obtain ⟨V0, cv0, rfl, -, -⟩ := hS0.form))
        have hb6 := next (next (next (next (hb2.drew) hB3) hB4) hB5) hB6
        have hx2_6 := box_keep (box_keep (box_keep (box_keep (hx2_d) hB3) hB4) hB5) hB6
        clear hx2_d HXO hO0_3 hO1_4 hO2_5 hU2_5 hg2_5 hB3 hB4 hB5 hB6
        go_wp2_with fail
        refine (toItemS_any _ _ _ _ (hA0.below hb6) hl0s HQ0.out).mono ?_
        rintro e w7 ⟨rfl, hO0_7, hB7⟩
        have hb7 := next hb6 hB7
        have hO0_7' := hO0_7
        have HWS : Hid (w.heap.size < W6.heap.size) := hide hx2_6.2.2
        have hx2_7 := box_keep hx2_6 hB7
        clear hx2_6
        go_wp2_with fail
        refine (toIntS_any _ _ _ _ (hA1.below hb7) hl1s).mono ?_
        rintro e w8 ⟨rfl, hO1_8, hB8⟩
        have hb8 := next hb7 hB8
        have hO1_8' := hO1_8
        have hx2_8 := box_keep hx2_7 hB8
        have hO0_8 := hO0_7.below hB8
        clear hx2_7 hO0_7
        go_wp2_with fail
        have hy2 := hx2_8.1
        have hz2 := hx2_8.2.1
        refine (toPlan_any _ _ _ _ _ _ _ (hA2.below hb8) (hC2.below hb8) hl2s hm2s).mono ?_
        rintro e w9 ⟨g2_9, rfl, hg2_9, hO2_9, hU2_9, hB9⟩
        clear hy2 hz2
        have hb9 := next hb8 hB9
        have hx2_9 := box_keep hx2_8 hB9
        have hO0_9 := hO0_8.below hB9
        have hO1_9 := hO1_8.below hB9
        clear hx2_8 hO0_8 hO1_8
        go_wp2_with fail
        have hBa9 : Below w9.heap.size w9 (w9.alloc (.cells #[.slice (some ⟨w8.heap.size + 3, 0, none⟩) x2.length x2.length, .slice (some ⟨g2_9, 0, none⟩) y2.length y2.length] 26)) := by go_grown
        have hb9a := next hb9 hBa9
        have hx2_9a := box_keep hx2_9 hBa9
        have hO0_9a := hO0_9.below hBa9
        have hO1_9a := hO1_9.below hBa9
        have hO2_9a := hO2_9.below hBa9
        have hU2_9a := hU2_9.below hBa9
        clear hx2_9 hO0_9 hO1_9 hO2_9 hU2_9
        have hx2_9 := hx2_9a
        have hO0_9 := hO0_9a
        have hO1_9 := hO1_9a
        have hO2_9 := hO2_9a
        have hU2_9 := hU2_9a
        clear hx2_9a hO0_9a hO1_9a hO2_9a hU2_9a
        refine (implMakeRun_any _ _ _ _ _ _ _ _ _ _ _ _ _ hO0_9.at_ hl0s HQ0.out hO1_9.at_ hl1s hO2_9.at_ hl2s).mono ?_
        rintro e w10 ⟨v1, rfl, hS1, hB10⟩
        rw [HX.out] at hS1
        rw [HK.out]
        obtain ⟨V1, cv1, rfl, -, -⟩ := hS1.form
        have hb10 := next hb9a hB10
        have hz7 := hB7.size
        have hz8 := hB8.size
        have hz9 := hB9.size
        have hz10 := hB10.size
        simp at hz10
        have hg29 := hO2_9.lt
        have hg30 := hU2_9.lt
        simp at hg29 hg30
        have hw6 := hb6.size
        have hlx1 : w7.heap.size < w8.heap.size := World.rowIs.lt hO1_8'
        have HLT0 := hide (World.ownsRow.lt hS0)
        have HLT1 := hide (World.ownsRow.lt hS1)
        have HS010 := hide (((((hS0.below hB7).below hB8).below hB9).below hBa9).below hB10)
        have HS110 := hide hS1
        have HP10 := hide (hO2_9.below hB10)
        have HQ10 := hide (hU2_9.below hB10)
        have HY10 := hide (hO1_9.below hB10)
        have HJ10 := hide (hO0_9.below hB10)
        have HI10 := hide ((((((hO0_7'.toIn (Nat.le_refl W6.heap.size)).below hB8).below hB9).below hBa9).below hB10))
        have HPB10 := hide (box_keep hx2_9 hB10)
        have HBX10 : Hid (w10.cell? ⟨w9.heap.size, 0, none⟩ = some (.slice (some ⟨w8.heap.size + 3, 0, none⟩) x2.length x2.length) ∧ w10.cell? ⟨w9.heap.size, 1, none⟩ = some (.slice (some ⟨g2_9, 0, none⟩) y2.length y2.length) ∧ w9.heap.size < w10.heap.size) := hide (box_keep (by simp) hB10)
        have HDF : Hid ((Value.slice V0 xs.length cv0).ownBlock = none ∨ (Value.slice V0 xs.length cv0).ownBlock ≠ (Value.slice V1 xs.length cv1).ownBlock) := hide (by
          cases e0 : (Value.slice V0 xs.length cv0).ownBlock with
          | none => exact .inl rfl
          | some k =>
            refine .inr fun e1 => ?_
            have a := (HLT0.out k e0).2
            have b := (HLT1.out k e1.symm).1
            simp at b
            omega)
        clear hS0 hS1 hO0_9 hO1_9 hO2_9 hU2_9 hB7 hB8 hB9 hB10 hBa9 hx2_9 hO0_7' hO1_8' hb9a
        go_wp2_with fail
        refine (eqIntS_same _ _ _ _ _ _ HS110.out.ints HS010.out.ints hn).mono ?_
        rintro e w11 ⟨rfl, hB11⟩
        have hb11 := next hb10 hB11
        have HS011 := hide (HS010.out.below hB11)
        have HS111 := hide (HS110.out.below hB11)
        have HP11 := hide (HP10.out.below hB11)
        have HQ11 := hide (HQ10.out.below hB11)
        have HY11 := hide (HY10.out.below hB11)
        have HJ11 := hide (HJ10.out.below hB11)
        have HI11 := hide (HI10.out.below hB11)
        have HPB11 := hide (box_keep HPB10.out hB11)
        have HBX11 := hide (box_keep HBX10.out hB11)
        clear hB11 HS010 HS110 HP10 HQ10 HY10 HJ10 HI10 HPB10 HBX10 hb10
        go_wp2_with fail
        refine (toItemS_any _ _ _ _ (hA0.below hb11) hl0s HQ0.out).mono ?_
        rintro e w12 ⟨rfl, hO12, hB12⟩
        have hb12 := next hb11 hB12
        have HS012 := hide (HS011.out.below hB12)
        have HS112 := hide (HS111.out.below hB12)
        have HP12 := hide (HP11.out.below hB12)
        have HQ12 := hide (HQ11.out.below hB12)
        have HY12 := hide (HY11.out.below hB12)
        have HJ12 := hide (HJ11.out.below hB12)
        have HI12 := hide (HI11.out.below hB12)
        have HPB12 := hide (box_keep HPB11.out hB12)
        have HBX12 := hide (box_keep HBX11.out hB12)
        clear hB12 HS011 HS111 HP11 HQ11 HY11 HJ11 HI11 HPB11 HBX11 hb11
        go_wp2_with fail
        refine (eqItemS_same _ _ _ _ _ _ HJ12.out.at_ hO12.at_ hl0s HQ0.out).mono ?_
        rintro e w13 ⟨rfl, hB13⟩
        have hb13 := next hb12 hB13
        have HS013 := hide (HS012.out.below hB13)
        have HS113 := hide (HS112.out.below hB13)
        have HP13 := hide (HP12.out.below hB13)
        have HQ13 := hide (HQ12.out.below hB13)
        have HY13 := hide (HY12.out.below hB13)
        have HJ13 := hide (HJ12.out.below hB13)
        have HI13 := hide (HI12.out.below hB13)
        have HPB13 := hide (box_keep HPB12.out hB13)
        have HBX13 := hide (box_keep HBX12.out hB13)
        clear hO12
        clear hB13 HS012 HS112 HP12 HQ12 HY12 HJ12 HI12 HPB12 HBX12 hb12
        go_wp2_with fail
        refine (toIntS_any _ _ _ _ (hA1.below hb13) hl1s).mono ?_
        rintro e w14 ⟨rfl, hO14, hB14⟩
        have hb14 := next hb13 hB14
        have HS014 := hide (HS013.out.below hB14)
        have HS114 := hide (HS113.out.below hB14)
        have HP14 := hide (HP13.out.below hB14)
        have HQ14 := hide (HQ13.out.below hB14)
        have HY14 := hide (HY13.out.below hB14)
        have HJ14 := hide (HJ13.out.below hB14)
        have HI14 := hide (HI13.out.below hB14)
        have HPB14 := hide (box_keep HPB13.out hB14)
        have HBX14 := hide (box_keep HBX13.out hB14)
        clear hB14 HS013 HS113 HP13 HQ13 HY13 HJ13 HI13 HPB13 HBX13 hb13
        go_wp2_with fail
        refine (eqIntS_same _ _ _ _ _ _ HY14.out.at_ hO14.at_ hl1s).mono ?_
        rintro e w15 ⟨rfl, hB15⟩
        have hb15 := next hb14 hB15
        have HS015 := hide (HS014.out.below hB15)
        have HS115 := hide (HS114.out.below hB15)
        have HP15 := hide (HP14.out.below hB15)
        have HQ15 := hide (HQ14.out.below hB15)
        have HY15 := hide (HY14.out.below hB15)
        have HJ15 := hide (HJ14.out.below hB15)
        have HI15 := hide (HI14.out.below hB15)
        have HPB15 := hide (box_keep HPB14.out hB15)
        have HBX15 := hide (box_keep HBX14.out hB15)
        clear hO14
        clear hB15 HS014 HS114 HP14 HQ14 HY14 HJ14 HI14 HPB14 HBX14 hb14
        go_wp2_with fail
        have hx2_d := box_drew HPB15.out
        have hq2_d := box_drew HBX15.out
        go_region_held3 (fun W => (W.cell? ⟨w.heap.size, 0, none⟩ = some (.slice A2 x2.length c2) ∧ W.cell? ⟨w.heap.size, 1, none⟩ = some (.slice B2 y2.length d2) ∧ w.heap.size < W.heap.size) ∧ (W.cell? ⟨w9.heap.size, 0, none⟩ = some (.slice (some ⟨w8.heap.size + 3, 0, none⟩) x2.length x2.length) ∧ W.cell? ⟨w9.heap.size, 1, none⟩ = some (.slice (some ⟨g2_9, 0, none⟩) y2.length y2.length) ∧ w9.heap.size < W.heap.size))
          (first | exact ⟨hx2_d, hq2_d⟩ | exact ⟨box_keep hx2_d hB16, box_keep hq2_d hB16⟩ | exact ⟨box_keep (box_keep hx2_d hB16) hB17, box_keep (box_keep hq2_d hB16) hB17⟩)
          (first
            | (go_at_call 19; refine (toPlan_any _ _ _ _ _ _ _ (hA2.below hb15.drew) (hC2.below hb15.drew) hl2s hm2s).mono ?_; rintro e w16 ⟨g2_16, rfl, hg2_16, hV2_16, hY2_16, hB16⟩)
            | (go_at_call 10; refine (eqPlan_same _ _ _ _ _ _ _ _ _ _ _ ((OwnInts.below (w := w15.drew) HP15.out hB16)).at_ ((OwnInts.below (w := w15.drew) HQ15.out hB16)).at_ hV2_16.at_ hY2_16.at_ hl2s hm2s).mono ?_; rintro e w17 ⟨rfl, hB17⟩))
        have hC16 : Below w15.heap.size w15 w16 := ⟨hB16.os, hB16.tape, hB16.output, hB16.size, hB16.block⟩
        have hC17 := next hC16 hB17
        have hb17 := next hb15 hC17
        have HS017 := hide (HS015.out.below hC17)
        have HS117 := hide (HS115.out.below hC17)
        have HP17 := hide (HP15.out.below hC17)
        have HQ17 := hide (HQ15.out.below hC17)
        have HY17 := hide (HY15.out.below hC17)
        have HI17 := hide (HI15.out.below hC17)
        have HPB17 := hide (box_keep HPB15.out hC17)
        have HBX17 := hide (box_keep HBX15.out hC17)
        clear hC16 hC17 hB16 hB17 hV2_16 hY2_16 hg2_16 hx2_d hq2_d hb15 HS015 HS115 HP15 HQ15 HY15 HJ15 HI15 HPB15 HBX15
        go_wp2_with fail
        refine (markItemS_bd _ _ _ _ _ _ HI17.out hl0s HQ0.out).mono ?_
        rintro e w18 ⟨r, rfl, hr0, hr1, hW⟩
        have hb18 : Below w.heap.size w w18 := hb17.trans (hW.below hw6 hb17.size)
        have HS018 := hide (hW.intSl HS017.out (fun k h => .inl (HLT0.out k h).2))
        have HS118 := hide (hW.intSl HS117.out (fun k h => .inr (by have := (HLT1.out k h).1; simp at this; omega)))
        have HP18 : Hid (OwnInts w18 (w8.heap.size + 3) x2) := hide (World.rowIs.of_block HP17.out (hW.block _ (World.rowIs.lt HP17.out) (.inr (by omega))))
        have HQ18 : Hid (OwnInts w18 g2_9 y2) := hide (World.rowIs.of_block HQ17.out (hW.block _ (World.rowIs.lt HQ17.out) (.inr (by omega))))
        have HY18 : Hid (OwnInts w18 w7.heap.size x1) := hide (World.rowIs.of_block HY17.out (hW.block _ (World.rowIs.lt HY17.out) (.inr (by omega))))
        have HPB18 := hide (cells_of HPB17.out (hW.block _ HPB17.out.2.2 (.inl (by have := HWS.out; omega))) hW.size)
        have HBX18 := hide (cells_of HBX17.out (hW.block _ HBX17.out.2.2 (.inr (by omega))) hW.size)
        clear hW HS017 HS117 HP17 HQ17 HY17 HI17 HPB17 HBX17 hb17
        go_wp2_with fail
        refine (markIntS_any 0 _ _ _ _ _ (HY18.out.sl (Nat.zero_le _) hl1s) hl1s hr0 (by omega)).mono ?_
        rintro e w19 ⟨rfl, -, hg19⟩
        have hb19 : Below w.heap.size w w19 := hb18.grown hg19 hb18.size (fun k h => by have h : some w7.heap.size = some k := h; injection h with h; omega)
        have HS019 := hide (HS018.out.row hg19 (by
          cases e0 : (Value.slice V0 xs.length cv0).ownBlock with
          | none => exact .inl rfl
          | some k => exact .inr (fun e => by have e : some k = some w7.heap.size := e; injection e with e; have := (HLT0.out k e0).2; omega)))
        have HS119 := hide (HS118.out.row hg19 (by
          cases e0 : (Value.slice V1 xs.length cv1).ownBlock with
          | none => exact .inl rfl
          | some k => exact .inr (fun e => by have e : some k = some w7.heap.size := e; injection e with e; have := (HLT1.out k e0).1; simp at this; omega)))
        have HP19 : Hid (OwnInts w19 (w8.heap.size + 3) x2) := hide (World.rowIs.of_block HP18.out (hg19.block _ (World.rowIs.lt HP18.out) (fun e => by have e : some (w8.heap.size + 3) = some w7.heap.size := e; injection e with e; omega)))
        have HQ19 : Hid (OwnInts w19 g2_9 y2) := hide (World.rowIs.of_block HQ18.out (hg19.block _ (World.rowIs.lt HQ18.out) (fun e => by have e : some g2_9 = some w7.heap.size := e; injection e with e; omega)))
        have HPB19 := hide (cells_of HPB18.out (hg19.block _ HPB18.out.2.2 (fun e => by have e : some w.heap.size = some w7.heap.size := e; injection e with e; have := HWS.out; omega)) hg19.size)
        have HBX19 := hide (cells_of HBX18.out (hg19.block _ HBX18.out.2.2 (fun e => by have e : some w9.heap.size = some w7.heap.size := e; injection e with e; omega)) hg19.size)
        clear hg19 HS018 HS118 HP18 HQ18 HY18 HPB18 HBX18 hb18
        obtain ⟨hq0, hq1, -⟩ := HBX19.out
        go_wp2_with fail
        clear hq0 hq1
        refine (markPlan_any 0 _ _ _ _ _ _ _ _ (HP19.out.sl (Nat.zero_le _) hl2s) (HQ19.out.sl (Nat.zero_le _) hm2s) (.inr (fun e => by have e : some (w8.heap.size + 3) = some g2_9 := e; injection e with e; omega)) hl2s hm2s (by omega) (by omega)).mono ?_
        rintro e w20 ⟨rfl, -, -, hF⟩
        have hb20 : Below w.heap.size w w20 := hb19.trans (hF.below hb19.size (fun k h => by have h : some (w8.heap.size + 3) = some k := h; injection h with h; omega) (fun k h => by have h : some g2_9 = some k := h; injection h with h; omega))
        have HS020 := hide (hF.intSl HS019.out (fun k h => ⟨fun e => by have e : some (w8.heap.size + 3) = some k := e; injection e with e; have := (HLT0.out k h).2; omega, fun e => by have e : some g2_9 = some k := e; injection e with e; have := (HLT0.out k h).2; omega⟩))
        have HS120 := hide (hF.intSl HS119.out (fun k h => ⟨fun e => by have e : some (w8.heap.size + 3) = some k := e; injection e with e; have := (HLT1.out k h).1; simp at this; omega, fun e => by have e : some g2_9 = some k := e; injection e with e; have := (HLT1.out k h).1; simp at this; omega⟩))
        have HPB20 := hide (cells_of HPB19.out (hF.block _ HPB19.out.2.2 (fun e => by have e : some (w8.heap.size + 3) = some w.heap.size := e; injection e with e; have := HWS.out; omega) (fun e => by have e : some g2_9 = some w.heap.size := e; injection e with e; have := HWS.out; omega)) hF.size)
        have hdk : decide (r + (x1.length : Int) + (x2.length : Int) + (y2.length : Int) < 0) = false := decide_eq_false (by omega)
        clear hF HS019 HS119 HP19 HQ19 HPB19 HBX19 hb19
        go_wp2_with fail
        refine (eqIntS_same _ _ _ _ _ _ HS120.out.ints HS020.out.ints hn).mono ?_
        rintro e w21 ⟨rfl, hB21⟩
        have hb21 := next hb20 hB21
        have HS021 := hide (HS020.out.below hB21)
        have HS121 := hide (HS120.out.below hB21)
        have HPB21 := hide (box_keep HPB20.out hB21)
        clear hB21 HS020 HS120 HPB20 hb20
        go_wp2_with fail
        refine (markIntS_any _ _ _ _ 1 _ HS121.out hn (by omega) (by omega)).mono ?_
        rintro e w22 ⟨rfl, hM, hg22⟩
        have hb22 : Below w.heap.size w w22 := hb21.grown hg22 hb21.size (fun k h => by have := (HLT1.out k h).1; simp at this; omega)
        have HS022 := hide (HS021.out.row hg22 HDF.out)
        have HS122 := hide hM
        have HPB22 := hide (cells_of HPB21.out (hg22.block _ HPB21.out.2.2 (fun e => by have := (HLT1.out _ e.symm).1; simp at this; have := HWS.out; omega)) hg22.size)
        have hd1 : decide (1 + (xs.length : Int) < 0) = false := decide_eq_false (by omega)
        clear hM hg22 HS021 HS121 HPB21 hb21
        go_wp2_with fail
        refine (heldIntS_any _ _ _ 1 _ HS122.out.ints hn (by omega) (by omega)).mono ?_
        rintro e w23 ⟨rfl, rfl⟩
        go_wp2_with fail
        have hx2_d := box_drew HPB22.out
        go_region_held3 (fun W => (W.cell? ⟨w.heap.size, 0, none⟩ = some (.slice A2 x2.length c2) ∧ W.cell? ⟨w.heap.size, 1, none⟩ = some (.slice B2 y2.length d2) ∧ w.heap.size < W.heap.size))
          (first | exact hx2_d | exact box_keep (hx2_d) hB24 | exact box_keep (box_keep (hx2_d) hB24) hB25 | exact box_keep (box_keep (box_keep (hx2_d) hB24) hB25) hB26 | exact box_keep (box_keep (box_keep (box_keep (hx2_d) hB24) hB25) hB26) hB27)
          (first | (go_at_call 7; (with_reducible refine (toItemS_any _ _ _ _ (hA0.below (hb22.drew)) hl0s HQ0.out).mono ?_); rintro e w24 ⟨rfl, hO0_24, hB24⟩) | (go_at_call 8; (with_reducible refine (toIntS_any _ _ _ _ (hA1.below (next (hb22.drew) hB24)) hl1s).mono ?_); rintro e w25 ⟨rfl, hO1_25, hB25⟩) | (go_at_call 19; (with_reducible refine (toPlan_any _ _ _ _ _ _ _ (hA2.below (next (next (hb22.drew) hB24) hB25)) (hC2.below (next (next (hb22.drew) hB24) hB25)) hl2s hm2s).mono ?_); rintro e w26 ⟨g2_26, rfl, hg2_26, hO2_26, hU2_26, hB26⟩) | (go_at_call 20; refine (implMakeRun_any _ _ _ _ _ _ _ _ _ _ _ _ _ (((hO0_24).below hB25).below hB26).at_ hl0s HQ0.out ((hO1_25).below hB26).at_ hl1s (hO2_26).at_ hl2s).mono ?_; rintro e w27 ⟨v2, rfl, hS2, hB27⟩; rw [HX.out] at hS2; rw [HK.out]; obtain ⟨V2, cv2, rfl, -, -⟩ := hS2.form))
        have hb27 := next (next (next (next (hb22.drew) hB24) hB25) hB26) hB27
        have hC27 := next (next (next hB24 hB25) hB26) hB27
        have HS027 := hide (IntSl.below (IntSl.drew HS022.out) hC27)
        have HS127 := hide (IntSl.below (IntSl.drew HS122.out) hC27)
        have HS227 := hide hS2
        clear hx2_d hO0_24 hO1_25 hO2_26 hU2_26 hg2_26 hB24 hB25 hB26 hB27 hC27 hS2 HS022 HS122 hb22 HPB22
        go_wp2_with fail
        refine (eqIntS_same _ _ _ _ _ _ HS227.out.ints HS027.out.ints hn).mono ?_
        rintro e w28 ⟨rfl, hB28⟩
        have hb28 := next hb27 hB28
        have HS128 := hide (HS127.out.below hB28)
        go_wp2_with fail
        refine (heldIntS_any _ _ _ 1 _ HS128.out.ints hn (by omega) (by omega)).mono ?_
        rintro e w29 ⟨rfl, rfl⟩
        go_wp2_with fail
        go_ret
        exact ⟨rfl, hb28⟩
  · go_enter Try.func4, Try.ntmps4
    go_wp2_with fail
    go_ret
    exact ⟨rfl, by go_grown⟩

theorem exactMakeRun_contract (H : Type) (enc : TypeId × Value → H) (W : World) (base : Nat) (args : Array Value) (ds gs : List (DataW H)) (before : List MemPlace)
    (hval : ∀ (j : Nat) t v, Try.f4.params[j]? = some t → args[j]? = some v → Value.okWide Try.prog W .any base t v)
    (hW : DataW.Whole enc Try.prog Try.f4.params.toList Rows.fnExactMakeRunSpec.vars false W args.toList ds gs before) :
    Calls Try.prog 4 args W fun e W' => ∃ v, e = .returned v ∧ Rows.fnExactMakeRunSpec.post enc Try.prog Try.f4 false true false false W args v W' := by
  have hW' := hW
  obtain ⟨p, q, hA, hV, rfl, _, _⟩ := hW
  obtain ⟨rfl, rfl⟩ := trodVars_none hV
  rw [Try.params4] at hA
  obtain ⟨v0, vs0, d0, ds0, p0, q0, hargs, rfl, rfl, h0, r0⟩ := trodAll_cons hA
  obtain ⟨v1, vs1, d1, ds1, p1, q1, rfl, rfl, rfl, h1, r1⟩ := trodAll_cons r0
  obtain ⟨v2, vs2, d2, ds2, p2, q2, rfl, rfl, rfl, h2, r2⟩ := trodAll_cons r1
  obtain ⟨rfl, rfl, rfl⟩ := trodAll_nil r2
  obtain rfl : args = #[v0, v1, v2] := by cases args; simp_all
  obtain ⟨a0, len0, cap0, rfl⟩ := okWide_slice Try.underlying22 (hval 0 22 v0 rfl rfl)
  obtain ⟨fuel0, hf0⟩ := h0
  obtain ⟨A0, c0, l0, hcs0, hI0, hl0, hp0⟩ := open_items hf0
  simp [Value.cells] at hcs0
  obtain ⟨rfl, rfl, rfl⟩ := hcs0
  obtain ⟨a1, len1, cap1, rfl⟩ := okWide_slice Try.underlying23 (hval 1 23 v1 rfl rfl)
  obtain ⟨fuel1, hf1⟩ := h1
  obtain ⟨A1, c1, l1, hcs1, hI1, hl1⟩ := open_numbers hf1
  simp [Value.cells] at hcs1
  obtain ⟨rfl, rfl, rfl⟩ := hcs1
  obtain ⟨A2, c2, l2, B2, e2, m2, rfl, hI2, hJ2, hl2, hm2⟩ := open_plan (hval 2 39 v2 rfl rfl) h2
  refine (exactMakeRun_any _ _ _ _ _ _ _ _ _ _ _ _ W hI0 hl0 hp0 hI1 hl1 hI2 hl2 hJ2 hm2).mono fun e W' ⟨he, hb⟩ => ?_
  subst he
  have hts : ∀ t ∈ Try.f4.params.toList, Try.prog.readableRec t = true ∧ t < Try.prog.types.size := by
    rw [Try.params4]
    intro t ht
    simp only [List.mem_cons, List.not_mem_nil, or_false] at ht
    rcases ht with rfl | rfl | rfl <;> exact ⟨by kernel_rfl, of_decide_eq_true (by kernel_rfl)⟩
  exact ⟨_, rfl, post_true hW' rfl rfl Try.underlying4 hts rfl rfl rfl hb⟩

set_option maxRecDepth 100000 in
theorem exactMakeRun_holds : Rows.FnExactMakeRunSaid :=
  OpenClaim.holds_of_wide 4 Try.f4 rfl rfl rfl rfl rfl rfl rfl ⟨rfl, rfl, rfl, rfl, rfl⟩ rfl rfl rfl rfl rfl (by kernel_rfl) Try.func4 (by kernel_rfl)
    (of_decide_eq_true (by kernel_rfl)) (by unfold Func.isWrapper; first | (rw [if_pos (by decide +kernel)]; kernel_rfl) | (rw [if_neg (by decide +kernel)]; exact ⟨rfl, rfl⟩))
    (fun os started H enc _ => returnsInHanded_of_change (C := Try.checked) own started (by kernel_rfl) Try.func4
      (ChangeSpec.witness6 (enc := enc) (C := Try.checked) false ⟨#[], #[.slice none 0 0, .slice none 0 0, .agg #[.slice none 0 0, .slice none 0 0]], []⟩ 8 (by kernel_rfl) (by kernel_rfl) (by kernel_rfl) (by kernel_rfl))
      (fun W base args ds gs before hval hW _ _ => exactMakeRun_contract H enc W base args ds gs before hval hW))
end Go.Proofs.Yteloapholoechaa
