/- For every list of items and every two lists of numbers the exact law of PlanLeast answers true, and its arguments read as they did.
   Conditions: none. -/
import Derived.Test.YteloapholoechaaRead2
import Derived.Test.YteloapholoechaaExKit
import Derived.Test.YteloapholoechaaMarkPlan
import Derived.Test.YteloapholoechaaLots
import Derived.Test.YteloapholoechaaPrices
import Derived.Test.YteloapholoechaaPlanLst
import Derived.Test.YteloapholoechaaPlanLst2
namespace Go.Proofs.Yteloapholoechaa
open Go.RowKit Go.ChangeShapes Go.WideShapes Go.ChangeAt

/-- Two plans in boxes, each with two rows of its own. -/
def Bun (W : World) (lo0 lo1 b0 b1 : Nat) (v0 u0 v1 u1 : Value) (R0 L0 R1 L1 : List Int) : Prop :=
  IntSl W lo0 v0 R0 ∧ IntSl W lo0 u0 L0 ∧ IntSl W lo1 v1 R1 ∧ IntSl W lo1 u1 L1 ∧ W.heap[b0]? = some (Obj.cells #[v0, u0] 26 (0, 0)) ∧ W.heap[b1]? = some (Obj.cells #[v1, u1] 26 (0, 0))
def Blk (b0 b1 : Nat) (v0 u0 v1 u1 : Value) (k : Nat) : Prop := v0.ownBlock = some k ∨ u0.ownBlock = some k ∨ v1.ownBlock = some k ∨ u1.ownBlock = some k ∨ k = b0 ∨ k = b1
theorem heap_ltB {w : World} {X : Nat} {o : Obj} (h : w.heap[X]? = some o) : X < w.heap.size := (Array.getElem?_eq_some_iff.1 h).1
theorem intSl_of {w w' : World} {lo : Nat} {v : Value} {xs : List Int} (hS : IntSl w lo v xs) (h1 : ∀ k, v.ownBlock = some k → w'.heap[k]? = w.heap[k]?) : IntSl w' lo v xs := by
  obtain ⟨a, b⟩ := hS
  refine ⟨a, ?_⟩
  rcases b with hn | ⟨g, cap, cur, rfl, hb', hg, r⟩
  · exact .inl hn
  · exact .inr ⟨g, cap, cur, rfl, hb', (h1 g rfl).trans hg, r⟩
theorem Bun.keep {W W' : World} {lo0 lo1 b0 b1 : Nat} {v0 u0 v1 u1 : Value} {R0 L0 R1 L1 : List Int} (h : Bun W lo0 lo1 b0 b1 v0 u0 v1 u1 R0 L0 R1 L1) (hk : ∀ k, k < W.heap.size → Blk b0 b1 v0 u0 v1 u1 k → W'.heap[k]? = W.heap[k]?) : Bun W' lo0 lo1 b0 b1 v0 u0 v1 u1 R0 L0 R1 L1 := by
  obtain ⟨h1, h2, h3, h4, h5, h6⟩ := h
  exact ⟨intSl_of h1 (fun k e => hk k (World.ownsRow.lt h1 k e).2 (.inl e)), intSl_of h2 (fun k e => hk k (World.ownsRow.lt h2 k e).2 (.inr (.inl e))), intSl_of h3 (fun k e => hk k (World.ownsRow.lt h3 k e).2 (.inr (.inr (.inl e)))),
    intSl_of h4 (fun k e => hk k (World.ownsRow.lt h4 k e).2 (.inr (.inr (.inr (.inl e))))), (hk b0 (heap_ltB h5) (.inr (.inr (.inr (.inr (.inl rfl)))))).trans h5, (hk b1 (heap_ltB h6) (.inr (.inr (.inr (.inr (.inr rfl)))))).trans h6⟩
theorem Bun.below {W W' : World} {lo0 lo1 b0 b1 : Nat} {v0 u0 v1 u1 : Value} {R0 L0 R1 L1 : List Int} (h : Bun W lo0 lo1 b0 b1 v0 u0 v1 u1 R0 L0 R1 L1) (hb : Below W.heap.size W W') : Bun W' lo0 lo1 b0 b1 v0 u0 v1 u1 R0 L0 R1 L1 := h.keep (fun k hk _ => hb.block k hk)
theorem Bun.c0 {W : World} {lo0 lo1 b0 b1 : Nat} {v0 u0 v1 u1 : Value} {R0 L0 R1 L1 : List Int} (h : Bun W lo0 lo1 b0 b1 v0 u0 v1 u1 R0 L0 R1 L1) : W.cell? ⟨b0, 0, none⟩ = some v0 ∧ W.cell? ⟨b0, 1, none⟩ = some u0 ∧ W.cell? ⟨b1, 0, none⟩ = some v1 ∧ W.cell? ⟨b1, 1, none⟩ = some u1 := by
  obtain ⟨_, _, _, _, h5, h6⟩ := h
  exact ⟨by rw [cell_of_row _ _ 0 _ _ _ h5]; rfl, by rw [cell_of_row _ _ 1 _ _ _ h5]; rfl, by rw [cell_of_row _ _ 0 _ _ _ h6]; rfl, by rw [cell_of_row _ _ 1 _ _ _ h6]; rfl⟩

theorem planRunsL_len (l : List Item) (want stock : List Int) (h : l.length ≤ 1048576) : (planRunsL l want stock).length ≤ 1048576 := by
  unfold planRunsL
  split
  · rw [lstL_len]; exact h
  · simp
theorem planLeftL_len (l : List Item) (want stock : List Int) (h : l.length ≤ 1048576) : (planLeftL l want stock).length ≤ 1048576 := by
  unfold planLeftL leastLeft
  split
  · rw [tab_len]; exact h
  · simp
set_option maxRecDepth 100000 in
set_option maxHeartbeats 4000000 in
theorem exactPlanLeast_any (A0 A1 A2 : Option Addr) (c0 c1 c2 : Nat) (l : List Item) (want stock : List Int) (w : World) (hA0 : ItemsAt w A0 l) (hl0 : l.length ≤ 9223372036854775807) (hp0 : ∀ x ∈ l, x.parts.length ≤ 9223372036854775807)
    (hA1 : IntsAt w A1 want) (hl1 : want.length ≤ 9223372036854775807) (hA2 : IntsAt w A2 stock) (hl2 : stock.length ≤ 9223372036854775807) :
    Calls Try.prog 3 #[.slice A0 l.length c0, .slice A1 want.length c1, .slice A2 stock.length c2] w fun e w' => e = .returned (.bool true) ∧ Below w.heap.size w w' := by
  have HP0 := hide hp0
  clear hp0
  by_cases hl1s : want.length ≤ 1048576
  · by_cases hl2s : stock.length ≤ 1048576
    · by_cases h0z : szL 1048576 l < 0
      · go_enter Try.func3, Try.ntmps3
        go_wp2_with fail
        refine (szItemS_any _ _ _ _ hA0 hl0 HP0.out).mono ?_
        rintro e w1 ⟨rfl, hB1⟩
        go_wp2_with fail
        go_ret
        exact ⟨rfl, hB1⟩
      · obtain ⟨hl0s, hp0s⟩ := szL_le h0z
        have HQ0 := hide hp0s
        clear hp0s
        obtain ⟨R, HR⟩ : ∃ R, Hid (planRunsL l want stock = R) := ⟨_, hide rfl⟩
        obtain ⟨L, HL⟩ : ∃ L, Hid (planLeftL l want stock = L) := ⟨_, hide rfl⟩
        obtain ⟨am, HAM⟩ : ∃ am, Hid (amountsOk l want stock = am) := ⟨_, hide rfl⟩
        have hrn : R.length ≤ 1048576 := by rw [← HR.out]; exact planRunsL_len _ _ _ hl0s
        have hln : L.length ≤ 1048576 := by rw [← HL.out]; exact planLeftL_len _ _ _ hl0s
        have hbb : (am != am) = false := by simp
        have hne : (1 + (R.length : Int) + (L.length : Int) != 1 + (R.length : Int) + (L.length : Int)) = false := by simp
        have HA0 := hide hA0
        have HA1 := hide hA1
        have HA2 := hide hA2
        clear hA0 hA1 hA2
        go_enter Try.func3, Try.ntmps3
        go_wp2_with fail
        refine (szItemS_any _ _ _ _ HA0.out hl0 HP0.out).mono ?_
        rintro e w1 ⟨rfl, hB1⟩
        have hb1 := hB1
        go_wp2_with fail
        refine (toItemS_any _ _ _ _ (HA0.out.below hb1) hl0s HQ0.out).mono ?_
        rintro e w2 ⟨rfl, hO2, hB2⟩
        have hb2 := next hb1 hB2
        go_wp2_with fail
        refine (toIntS_any _ _ _ _ (HA1.out.below hb2) hl1s).mono ?_
        rintro e w3 ⟨rfl, hO3, hB3⟩
        have hb3 := next hb2 hB3
        go_wp2_with fail
        refine (toIntS_any _ _ _ _ (HA2.out.below hb3) hl2s).mono ?_
        rintro e w4 ⟨rfl, hO4, hB4⟩
        have hb4 := next hb3 hB4
        go_wp2_with fail
        refine (specPlanLeast_any _ _ _ _ _ _ _ _ _ _ ((hO2.below hB3).below hB4).at_ hl0s HQ0.out (hO3.below hB4).at_ hl1s hO4.at_ hl2s).mono ?_
        rintro e w5 ⟨v0, u0, rfl, hv0, hu0, -, hB5⟩
        rw [HR.out] at hv0
        rw [HL.out] at hu0
        rw [HAM.out]
        obtain ⟨V0, cv0, rfl, -, -⟩ := hv0.form
        obtain ⟨U0, cu0, rfl, -, -⟩ := hu0.form
        have hb5 := next hb4 hB5
        have HV0 := hide hv0
        have HU0 := hide hu0
        clear hv0 hu0 hO2 hO3 hO4 hB2 hB3 hB4 hB5
        have hBb : Below w5.heap.size w5 (w5.alloc (.cells #[.slice V0 R.length cv0, .slice U0 L.length cu0] 26)) := (Below.refl _ _).alloc (Nat.le_refl _) _
        have hb5a := next hb5 hBb
        have HX0 : Hid ((w5.alloc (.cells #[.slice V0 R.length cv0, .slice U0 L.length cu0] 26)).heap[w5.heap.size]? = some (Obj.cells #[.slice V0 R.length cv0, .slice U0 L.length cu0] 26 (0, 0))) := hide (heap_alloc_new w5 _)
        go_wp2_with fail
        refine (toItemS_any _ _ _ _ (HA0.out.below hb5a) hl0s HQ0.out).mono ?_
        rintro e w6 ⟨rfl, hO6, hB6⟩
        rw [World.size_alloc] at hO6 ⊢
        have hb6 := next hb5a hB6
        go_wp2_with fail
        refine (toIntS_any _ _ _ _ (HA1.out.below hb6) hl1s).mono ?_
        rintro e w7 ⟨rfl, hO7, hB7⟩
        have hb7 := next hb6 hB7
        go_wp2_with fail
        refine (toIntS_any _ _ _ _ (HA2.out.below hb7) hl2s).mono ?_
        rintro e w8 ⟨rfl, hO8, hB8⟩
        have hb8 := next hb7 hB8
        go_wp2_with fail
        refine (implPlanLeast_any _ _ _ _ _ _ _ _ _ _ ((hO6.below hB7).below hB8).at_ hl0s HQ0.out (hO7.below hB8).at_ hl1s hO8.at_ hl2s).mono ?_
        rintro e w9 ⟨v1, u1, rfl, hv1, hu1, hdd, hB9⟩
        rw [HR.out] at hv1
        rw [HL.out] at hu1
        rw [HAM.out]
        obtain ⟨V1, cv1, rfl, -, -⟩ := hv1.form
        obtain ⟨U1, cu1, rfl, -, -⟩ := hu1.form
        have hb9 := next hb8 hB9
        have hBc : Below w9.heap.size w9 (w9.alloc (.cells #[.slice V1 R.length cv1, .slice U1 L.length cu1] 26)) := (Below.refl _ _).alloc (Nat.le_refl _) _
        have hb9a := next hb9 hBc
        have hBd : Below w5.heap.size w5 (w9.alloc (.cells #[.slice V1 R.length cv1, .slice U1 L.length cu1] 26)) := next (next (next (next (next hBb hB6) hB7) hB8) hB9) hBc
        have hBe : Below (w5.alloc (.cells #[.slice V0 R.length cv0, .slice U0 L.length cu0] 26)).heap.size (w5.alloc (.cells #[.slice V0 R.length cv0, .slice U0 L.length cu0] 26)) (w9.alloc (.cells #[.slice V1 R.length cv1, .slice U1 L.length cu1] 26)) := next (next (next (next hB6 hB7) hB8) hB9) hBc
        have HN : Hid (Bun (w9.alloc (.cells #[.slice V1 R.length cv1, .slice U1 L.length cu1] 26)) w4.heap.size w8.heap.size w5.heap.size w9.heap.size (.slice V0 R.length cv0) (.slice U0 L.length cu0) (.slice V1 R.length cv1) (.slice U1 L.length cu1) R L R L) :=
          hide ⟨HV0.out.below hBd, HU0.out.below hBd, hv1.below hBc, hu1.below hBc, (hBe.block _ (by simp)).trans HX0.out, heap_alloc_new w9 _⟩
        have hz6 := hB6.size
        have hz7 := hB7.size
        have hz8 := hB8.size
        have hz9 := hB9.size
        simp at hz6
        have HOUT : Hid (∀ k, Blk w5.heap.size w9.heap.size (.slice V0 R.length cv0) (.slice U0 L.length cu0) (.slice V1 R.length cv1) (.slice U1 L.length cu1) k → k < (w5.heap.size + 1) ∨ w8.heap.size ≤ k) := hide (fun k hk => by
          rcases hk with h | h | h | h | h | h
          · have := (World.ownsRow.lt HV0.out k h).2; omega
          · have := (World.ownsRow.lt HU0.out k h).2; omega
          · have := (World.ownsRow.lt hv1 k h).1; omega
          · have := (World.ownsRow.lt hu1 k h).1; omega
          · omega
          · omega)
        have HS1 : Hid (∀ k, (Value.slice V1 R.length cv1).ownBlock = some k → w8.heap.size ≤ k ∧ k < w9.heap.size) := hide (fun k h => World.ownsRow.lt hv1 k h)
        have HS2 : Hid (∀ k, (Value.slice U1 L.length cu1).ownBlock = some k → w8.heap.size ≤ k ∧ k < w9.heap.size) := hide (fun k h => World.ownsRow.lt hu1 k h)
        have HS3 : Hid (∀ k, (Value.slice V0 R.length cv0).ownBlock = some k ∨ (Value.slice U0 L.length cu0).ownBlock = some k → k < w5.heap.size) := hide (fun k h => by
          rcases h with h | h
          · exact (World.ownsRow.lt HV0.out k h).2
          · exact (World.ownsRow.lt HU0.out k h).2)
        have HDD := hide hdd
        have HI : Hid (OwnIn (w9.alloc (.cells #[.slice V1 R.length cv1, .slice U1 L.length cu1] 26)) (w5.heap.size + 1) w6.heap.size (w5.heap.size + 1) l) :=
          hide (((((hO6.toIn (Nat.le_refl _)).below hB7).below hB8).below hB9).below hBc)
        have HJ : Hid (OwnItems (w9.alloc (.cells #[.slice V1 R.length cv1, .slice U1 L.length cu1] 26)) (w5.heap.size + 1) l) := hide ((((hO6.below hB7).below hB8).below hB9).below hBc)
        have HY1 : Hid (OwnInts (w9.alloc (.cells #[.slice V1 R.length cv1, .slice U1 L.length cu1] 26)) w6.heap.size want) := hide (((hO7.below hB8).below hB9).below hBc)
        have HY2 : Hid (OwnInts (w9.alloc (.cells #[.slice V1 R.length cv1, .slice U1 L.length cu1] 26)) w7.heap.size stock) := hide ((hO8.below hB9).below hBc)
        have hl6 := World.rowIs.lt hO7
        have hl7 := World.rowIs.lt hO8
        have hwz := hb4.size
        have hwz5 := hb5.size
        clear hv1 hu1 hdd hO6 hO7 hO8 hB6 hB7 hB8 hB9 hBb hBc hBd hBe HX0 HV0 HU0 hb1 hb2 hb3 hb4 hb5 hb5a hb6 hb7 hb8 hb9
        obtain ⟨hq0, hq1, hq2, hq3⟩ := Bun.c0 HN.out
        go_wp2_with fail
        clear hq0 hq1 hq2 hq3
        refine (eqPlan_same _ _ _ _ _ _ _ _ _ _ _ HN.out.2.2.1.ints HN.out.2.2.2.1.ints HN.out.1.ints HN.out.2.1.ints hrn hln).mono ?_
        rintro e w10 ⟨rfl, hB10⟩
        have hb10 := next hb9a hB10
        have HN10 := hide (HN.out.below hB10)
        have HI10 := hide (HI.out.below hB10)
        have HJ10 := hide (HJ.out.below hB10)
        have HY110 := hide (HY1.out.below hB10)
        have HY210 := hide (HY2.out.below hB10)
        clear hB10 HN HI HJ HY1 HY2 hb9a
        go_wp2_with fail
        refine (toItemS_any _ _ _ _ (HA0.out.below hb10) hl0s HQ0.out).mono ?_
        rintro e w11 ⟨rfl, hO11, hB11⟩
        have hb11 := next hb10 hB11
        have HN11 := hide (HN10.out.below hB11)
        have HI11 := hide (HI10.out.below hB11)
        have HJ11 := hide (HJ10.out.below hB11)
        have HY111 := hide (HY110.out.below hB11)
        have HY211 := hide (HY210.out.below hB11)
        clear hB11 HN10 HI10 HJ10 HY110 HY210 hb10
        go_wp2_with fail
        refine (eqItemS_same _ _ _ _ _ _ HJ11.out.at_ hO11.at_ hl0s HQ0.out).mono ?_
        rintro e w12 ⟨rfl, hB12⟩
        have hb12 := next hb11 hB12
        have HN12 := hide (HN11.out.below hB12)
        have HI12 := hide (HI11.out.below hB12)
        have HJ12 := hide (HJ11.out.below hB12)
        have HY112 := hide (HY111.out.below hB12)
        have HY212 := hide (HY211.out.below hB12)
        clear hO11
        clear hB12 HN11 HI11 HJ11 HY111 HY211 hb11
        go_wp2_with fail
        refine (toIntS_any _ _ _ _ (HA1.out.below hb12) hl1s).mono ?_
        rintro e w13 ⟨rfl, hO13, hB13⟩
        have hb13 := next hb12 hB13
        have HN13 := hide (HN12.out.below hB13)
        have HI13 := hide (HI12.out.below hB13)
        have HJ13 := hide (HJ12.out.below hB13)
        have HY113 := hide (HY112.out.below hB13)
        have HY213 := hide (HY212.out.below hB13)
        clear hB13 HN12 HI12 HJ12 HY112 HY212 hb12
        go_wp2_with fail
        refine (eqIntS_same _ _ _ _ _ _ HY113.out.at_ hO13.at_ hl1s).mono ?_
        rintro e w14 ⟨rfl, hB14⟩
        have hb14 := next hb13 hB14
        have HN14 := hide (HN13.out.below hB14)
        have HI14 := hide (HI13.out.below hB14)
        have HJ14 := hide (HJ13.out.below hB14)
        have HY114 := hide (HY113.out.below hB14)
        have HY214 := hide (HY213.out.below hB14)
        clear hO13
        clear hB14 HN13 HI13 HJ13 HY113 HY213 hb13
        go_wp2_with fail
        refine (toIntS_any _ _ _ _ (HA2.out.below hb14) hl2s).mono ?_
        rintro e w15 ⟨rfl, hO15, hB15⟩
        have hb15 := next hb14 hB15
        have HN15 := hide (HN14.out.below hB15)
        have HI15 := hide (HI14.out.below hB15)
        have HJ15 := hide (HJ14.out.below hB15)
        have HY115 := hide (HY114.out.below hB15)
        have HY215 := hide (HY214.out.below hB15)
        clear hB15 HN14 HI14 HJ14 HY114 HY214 hb14
        go_wp2_with fail
        refine (eqIntS_same _ _ _ _ _ _ HY215.out.at_ hO15.at_ hl2s).mono ?_
        rintro e w16 ⟨rfl, hB16⟩
        have hb16 := next hb15 hB16
        have HN16 := hide (HN15.out.below hB16)
        have HI16 := hide (HI15.out.below hB16)
        have HJ16 := hide (HJ15.out.below hB16)
        have HY116 := hide (HY115.out.below hB16)
        have HY216 := hide (HY215.out.below hB16)
        clear hO15
        clear hB16 HN15 HI15 HJ15 HY115 HY215 hb15
        have hbz : (w5.heap.size + 1) ≤ w16.heap.size := by have := heap_ltB HN16.out.2.2.2.2.2; omega
        go_wp2_with fail
        refine (markItemS_bd _ _ _ _ _ _ HI16.out hl0s HQ0.out).mono ?_
        rintro e w17 ⟨r, rfl, hr0, hr1, hW⟩
        have hb17 : Below w.heap.size w w17 := hb16.trans (hW.below (by omega) hb16.size)
        have HN17 := hide (HN16.out.keep (W' := w17) (fun k hk hB => hW.block k hk (by rcases HOUT.out k hB with h | h <;> omega)))
        have HY117 : Hid (OwnInts w17 w6.heap.size want) := hide (World.rowIs.of_block HY116.out (hW.block _ (World.rowIs.lt HY116.out) (.inr (Nat.le_refl _))))
        have HY217 : Hid (OwnInts w17 w7.heap.size stock) := hide (World.rowIs.of_block HY216.out (hW.block _ (World.rowIs.lt HY216.out) (.inr (by omega))))
        clear hW HN16 HI16 HJ16 HY116 HY216 hb16 hbz
        go_wp2_with fail
        refine (markIntS_any 0 _ _ _ _ _ (HY117.out.sl (Nat.zero_le _) hl1s) hl1s hr0 (by omega)).mono ?_
        rintro e w18 ⟨rfl, -, hg18⟩
        have hb18 : Below w.heap.size w w18 := hb17.grown hg18 hb17.size (fun k h => by have h : some w6.heap.size = some k := h; injection h with h; omega)
        have HN18 := hide (HN17.out.keep (W' := w18) (fun k hk hB => hg18.block k hk (fun e => by have e : some k = some w6.heap.size := e; injection e with e; rcases HOUT.out k hB with h | h <;> omega)))
        have HY218 : Hid (OwnInts w18 w7.heap.size stock) := hide (World.rowIs.of_block HY217.out (hg18.block _ (World.rowIs.lt HY217.out) (fun e => by have e : some w7.heap.size = some w6.heap.size := e; injection e with e; omega)))
        clear hg18 HN17 HY117 HY217 hb17
        go_wp2_with fail
        refine (markIntS_any 0 _ _ _ _ _ (HY218.out.sl (Nat.zero_le _) hl2s) hl2s (by omega) (by omega)).mono ?_
        rintro e w19 ⟨rfl, -, hg19⟩
        have hb19 : Below w.heap.size w w19 := hb18.grown hg19 hb18.size (fun k h => by have h : some w7.heap.size = some k := h; injection h with h; omega)
        have HN19 := hide (HN18.out.keep (W' := w19) (fun k hk hB => hg19.block k hk (fun e => by have e : some k = some w7.heap.size := e; injection e with e; rcases HOUT.out k hB with h | h <;> omega)))
        have hdk : decide (r + (want.length : Int) + (stock.length : Int) < 0) = false := decide_eq_false (by omega)
        clear hg19 HN18 HY218 hb18
        obtain ⟨hq0, hq1, hq2, hq3⟩ := Bun.c0 HN19.out
        go_wp2_with fail
        clear hq0 hq1 hq2 hq3
        refine (eqPlan_same _ _ _ _ _ _ _ _ _ _ _ HN19.out.2.2.1.ints HN19.out.2.2.2.1.ints HN19.out.1.ints HN19.out.2.1.ints hrn hln).mono ?_
        rintro e w20 ⟨rfl, hB20⟩
        have hb20 := next hb19 hB20
        have HN20 := hide (HN19.out.below hB20)
        clear hB20 HN19 hb19
        obtain ⟨hq0, hq1, hq2, hq3⟩ := Bun.c0 HN20.out
        go_wp2_with fail
        clear hq0 hq1 hq2 hq3
        refine (markPlan_any w8.heap.size _ _ _ _ _ _ _ _ HN20.out.2.2.1 HN20.out.2.2.2.1 HDD.out hrn hln (by omega) (by omega)).mono ?_
        rintro e w21 ⟨rfl, hM1, hM2, hF⟩
        have hb21 : Below w.heap.size w w21 := hb20.trans (hF.below hb20.size (fun k h => by have := (HS1.out k h).1; omega) (fun k h => by have := (HS2.out k h).1; omega))
        have HN21 : Hid (Bun w21 w4.heap.size w8.heap.size w5.heap.size w9.heap.size (.slice V0 R.length cv0) (.slice U0 L.length cu0) (.slice V1 R.length cv1) (.slice U1 L.length cu1) R L (seqK 1 R.length) (seqK (1 + (R.length : Int)) L.length)) := hide (by
          obtain ⟨n1, n2, -, -, n5, n6⟩ := HN20.out
          refine ⟨hF.intSl n1 (fun k h => ?_), hF.intSl n2 (fun k h => ?_), hM1, hM2, (hF.block _ (heap_ltB n5) (fun e => ?_) (fun e => ?_)).trans n5, (hF.block _ (heap_ltB n6) (fun e => ?_) (fun e => ?_)).trans n6⟩
          · have a := HS3.out k (.inl h)
            exact ⟨fun e => by have := (HS1.out k e).1; omega, fun e => by have := (HS2.out k e).1; omega⟩
          · have a := HS3.out k (.inr h)
            exact ⟨fun e => by have := (HS1.out k e).1; omega, fun e => by have := (HS2.out k e).1; omega⟩
          · have := (HS1.out _ e).1; omega
          · have := (HS2.out _ e).1; omega
          · have := (HS1.out _ e).2; omega
          · have := (HS2.out _ e).2; omega)
        have hd1 : decide (1 + (R.length : Int) + (L.length : Int) < 0) = false := decide_eq_false (by omega)
        clear hM1 hM2 hF HN20 hb20
        obtain ⟨hq0, hq1, hq2, hq3⟩ := Bun.c0 HN21.out
        go_wp2_with fail
        clear hq0 hq1 hq2 hq3
        refine (heldPlan_any _ _ _ _ _ _ _ _ HN21.out.2.2.1.ints HN21.out.2.2.2.1.ints hrn hln (by omega) (by omega)).mono ?_
        rintro e w22 ⟨rfl, hB22⟩
        have hb22 := next hb21 hB22
        have HN22 := hide (HN21.out.below hB22)
        clear hB22 HN21 hb21
        go_wp2_with fail
        refine (toItemS_any _ _ _ _ (HA0.out.below hb22) hl0s HQ0.out).mono ?_
        rintro e w23 ⟨rfl, hO23, hB23⟩
        have hb23 := next hb22 hB23
        have HN23 := hide (HN22.out.below hB23)
        have hBx23 := hB23
        clear hB23 HN22 hb22
        go_wp2_with fail
        refine (toIntS_any _ _ _ _ (HA1.out.below hb23) hl1s).mono ?_
        rintro e w24 ⟨rfl, hO24, hB24⟩
        have hb24 := next hb23 hB24
        have HN24 := hide (HN23.out.below hB24)
        have hP23 := hO23.below hB24
        clear hB24 HN23 hb23
        go_wp2_with fail
        refine (toIntS_any _ _ _ _ (HA2.out.below hb24) hl2s).mono ?_
        rintro e w25 ⟨rfl, hO25, hB25⟩
        have hb25 := next hb24 hB25
        have HN25 := hide (HN24.out.below hB25)
        have hQ23 := hP23.below hB25
        have hQ24 := hO24.below hB25
        clear hB25 HN24 hb24
        go_wp2_with fail
        refine (implPlanLeast_any _ _ _ _ _ _ _ _ _ _ hQ23.at_ hl0s HQ0.out hQ24.at_ hl1s hO25.at_ hl2s).mono ?_
        rintro e w26 ⟨v2, u2, rfl, hv2, hu2, -, hB26⟩
        rw [HR.out] at hv2
        rw [HL.out] at hu2
        rw [HAM.out]
        obtain ⟨V2, cv2, rfl, -, -⟩ := hv2.form
        obtain ⟨U2, cu2, rfl, -, -⟩ := hu2.form
        have hBx : Below w26.heap.size w26 (w26.alloc (.cells #[.slice V2 R.length cv2, .slice U2 L.length cu2] 26)) := (Below.refl _ _).alloc (Nat.le_refl _) _
        have hb26 := next (next hb25 hB26) hBx
        have HN26 := hide ((HN25.out.below hB26).below hBx)
        have hv26 := hv2.below hBx
        have hu26 := hu2.below hBx
        have HV26 := hide hv26
        have HU26 := hide hu26
        clear hB26 hBx HN25 hb25 hv2 hu2 hO23 hO24 hO25 hP23 hQ23 hQ24 hv26 hu26
        obtain ⟨hq0, hq1, hq2, hq3⟩ := Bun.c0 HN26.out
        go_wp2_with fail
        clear hq0 hq1 hq2 hq3
        refine (eqPlan_same _ _ _ _ _ _ _ _ _ _ _ HV26.out.ints HU26.out.ints HN26.out.1.ints HN26.out.2.1.ints hrn hln).mono ?_
        rintro e w27 ⟨rfl, hB27⟩
        have hb27 := next hb26 hB27
        have HN27 := hide (HN26.out.below hB27)
        clear hB27 HN26 hb26 HV26 HU26
        obtain ⟨hq0, hq1, hq2, hq3⟩ := Bun.c0 HN27.out
        go_wp2_with fail
        clear hq0 hq1 hq2 hq3
        refine (heldPlan_any _ _ _ _ _ _ _ _ HN27.out.2.2.1.ints HN27.out.2.2.2.1.ints hrn hln (by omega) (by omega)).mono ?_
        rintro e w28 ⟨rfl, hB28⟩
        have hb28 := next hb27 hB28
        have HN28 := hide (HN27.out.below hB28)
        clear hB28 HN27 hb27
        go_wp2_with fail
        go_ret
        exact ⟨rfl, hb28⟩
    · go_enter Try.func3, Try.ntmps3
      go_wp2_with fail
      go_ret
      exact ⟨rfl, Below.refl _ _⟩
  · go_enter Try.func3, Try.ntmps3
    go_wp2_with fail
    go_ret
    exact ⟨rfl, Below.refl _ _⟩

theorem exactPlanLeast_contract (H : Type) (enc : TypeId × Value → H) (W : World) (base : Nat) (args : Array Value) (ds gs : List (DataW H)) (before : List MemPlace)
    (hval : ∀ (j : Nat) t v, Try.f3.params[j]? = some t → args[j]? = some v → Value.okWide Try.prog W .any base t v)
    (hW : DataW.Whole enc Try.prog Try.f3.params.toList Rows.fnExactPlanLeastSpec.vars false W args.toList ds gs before) :
    Calls Try.prog 3 args W fun e W' => ∃ v, e = .returned v ∧ Rows.fnExactPlanLeastSpec.post enc Try.prog Try.f3 false true false false W args v W' := by
  have hW' := hW
  obtain ⟨p, q, hA, hV, rfl, _, _⟩ := hW
  obtain ⟨rfl, rfl⟩ := trodVars_none hV
  rw [Try.params3] at hA
  obtain ⟨v0, vs0, d0, ds0, p0, q0, hargs, rfl, rfl, h0, r0⟩ := trodAll_cons hA
  obtain ⟨v1, vs1, d1, ds1, p1, q1, rfl, rfl, rfl, h1, r1⟩ := trodAll_cons r0
  obtain ⟨v2, vs2, d2, ds2, p2, q2, rfl, rfl, rfl, h2, r2⟩ := trodAll_cons r1
  obtain ⟨rfl, rfl, rfl⟩ := trodAll_nil r2
  obtain rfl : args = #[v0, v1, v2] := by cases args; simp_all
  obtain ⟨a0, len0, cap0, rfl⟩ := okWide_slice Try.underlying22 (hval 0 22 v0 rfl rfl)
  obtain ⟨fuel0, hf0⟩ := h0
  obtain ⟨A0, c0, l0, hcs0, hI0, hl0, hp0⟩ := open_items hf0
  simp [Value.cells] at hcs0
  obtain ⟨rfl, rfl, rfl⟩ := hcs0
  obtain ⟨a1, len1, cap1, rfl⟩ := okWide_slice Try.underlying23 (hval 1 23 v1 rfl rfl)
  obtain ⟨fuel1, hf1⟩ := h1
  obtain ⟨A1, c1, l1, hcs1, hI1, hl1⟩ := open_numbers hf1
  simp [Value.cells] at hcs1
  obtain ⟨rfl, rfl, rfl⟩ := hcs1
  obtain ⟨a2, len2, cap2, rfl⟩ := okWide_slice Try.underlying23 (hval 2 23 v2 rfl rfl)
  obtain ⟨fuel2, hf2⟩ := h2
  obtain ⟨A2, c2, l2, hcs2, hI2, hl2⟩ := open_numbers hf2
  simp [Value.cells] at hcs2
  obtain ⟨rfl, rfl, rfl⟩ := hcs2
  refine (exactPlanLeast_any _ _ _ _ _ _ _ _ _ W hI0 hl0 hp0 hI1 hl1 hI2 hl2).mono fun e W' ⟨he, hb⟩ => ?_
  subst he
  have hts : ∀ t ∈ Try.f3.params.toList, Try.prog.readableRec t = true ∧ t < Try.prog.types.size := by
    rw [Try.params3]
    intro t ht
    simp only [List.mem_cons, List.not_mem_nil, or_false] at ht
    rcases ht with rfl | rfl | rfl <;> exact ⟨by kernel_rfl, of_decide_eq_true (by kernel_rfl)⟩
  exact ⟨_, rfl, post_true hW' rfl rfl Try.underlying4 hts rfl rfl rfl hb⟩

set_option maxRecDepth 100000 in
theorem exactPlanLeast_holds : Rows.FnExactPlanLeastSaid :=
  OpenClaim.holds_of_wide 3 Try.f3 rfl rfl rfl rfl rfl rfl rfl ⟨rfl, rfl, rfl, rfl, rfl⟩ rfl rfl rfl rfl rfl (by kernel_rfl) Try.func3 (by kernel_rfl)
    (of_decide_eq_true (by kernel_rfl)) (by unfold Func.isWrapper; first | (rw [if_pos (by decide +kernel)]; kernel_rfl) | (rw [if_neg (by decide +kernel)]; exact ⟨rfl, rfl⟩))
    (fun os started H enc _ => returnsInHanded_of_change (C := Try.checked) own started (by kernel_rfl) Try.func3
      (ChangeSpec.witness6 (enc := enc) (C := Try.checked) false ⟨#[], #[.slice none 0 0, .slice none 0 0, .slice none 0 0], []⟩ 8 (by kernel_rfl) (by kernel_rfl) (by kernel_rfl) (by kernel_rfl))
      (fun W base args ds gs before hval hW _ _ => exactPlanLeast_contract H enc W base args ds gs before hval hW))
end Go.Proofs.Yteloapholoechaa
