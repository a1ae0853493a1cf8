/- Draws of an item with nothing wrong in it (l20Item with 0): what is drawn is valid at its place.
   Conditions: the place is at most 6, the reader's offset at most 90000. -/
import Derived.Test.YtaelapimchmbcaaDoorDraw2
import Derived.Test.YtaelapimchmbcaaDoorValid
namespace Go.Proofs.YtaelapimchmbcaaDoor
open Go.RowKit

theorem partsGo_mono {j j' : Int} (h : j ≤ j') : ∀ {ps : List Part} {lo : Int}, partsGo j lo ps = true → partsGo j' lo ps = true
  | [], _, _ => rfl
  | p :: r, lo, hp => by
    unfold partsGo at hp ⊢
    simp only [Bool.and_eq_true, inR_iff] at hp ⊢
    exact ⟨⟨hp.1.1, by omega⟩, hp.2.1, partsGo_mono h hp.2.2⟩
theorem partsGo_push {j m : Int} (hm : 1 ≤ m ∧ m ≤ 6) : ∀ {ps : List Part} {lo : Int}, lo ≤ j → partsGo j lo ps = true → partsGo (j + 1) lo (ps ++ [⟨j, m⟩]) = true
  | [], lo, hlo, _ => by
    simp only [List.nil_append, partsGo, Bool.and_eq_true, inR_iff]
    exact ⟨⟨hlo, by omega⟩, hm, trivial⟩
  | p :: r, lo, hlo, hp => by
    rw [List.cons_append]
    unfold partsGo at hp ⊢
    simp only [Bool.and_eq_true, inR_iff] at hp ⊢
    exact ⟨⟨hp.1.1, by omega⟩, hp.2.1, partsGo_push hm (by omega) hp.2.2⟩
def ItP0 (y : Int) (ps : List Part) (mk : Int) : Prop := y = 0 ∧ ps = [] ∧ 0 ≤ mk ∧ mk ≤ 31
def ItP1 (ix : Int) (j : Nat) (y : Int) (ps : List Part) (mk : Int) : Prop := (1 ≤ y ∧ y ≤ 6) ∧ (0 ≤ mk ∧ mk ≤ 31) ∧ partsGo j 0 ps = true ∧ (ps = [] → (j : Int) < ix)
def ItPE (ix : Int) (y : Int) (ps : List Part) (mk : Int) : Prop := itemOk ⟨y, ps, mk⟩ ix = true
theorem itP_none {ix y mk : Int} {ps : List Part} (h : ItP0 y ps mk) : ItPE ix y ps mk := by
  obtain ⟨rfl, rfl, h0, h1⟩ := h
  unfold ItPE itemOk
  simp only [Bool.and_eq_true, inR_iff]
  exact ⟨⟨h0, h1⟩, by simp⟩
theorem itP_start {ix y mk q : Int} {ps : List Part} (h : ItP0 y ps mk) (h0 : 0 ≤ q) (h1 : q ≤ 5) (hix : 0 < ix) : ItP1 ix 0 (1 + q) ps mk := by
  obtain ⟨rfl, rfl, m0, m1⟩ := h
  exact ⟨⟨by omega, by omega⟩, ⟨m0, m1⟩, rfl, fun _ => hix⟩
theorem itP_push {ix y mk q : Int} {j : Nat} {ps : List Part} (h : ItP1 ix j y ps mk) (h0 : 0 ≤ q) (h1 : q ≤ 3) : ItP1 ix (j + 1) y (ps ++ [⟨j, 1 + q⟩]) mk :=
  ⟨h.1, h.2.1, by have := partsGo_push (j := (j : Int)) (m := 1 + q) ⟨by omega, by omega⟩ (by omega) h.2.2.1; exact_mod_cast this, fun e => by simp at e⟩
theorem itP_skip {ix y mk : Int} {j : Nat} {ps : List Part} (h : ItP1 ix j y ps mk) (hn : ps = [] → (j : Int) + 1 < ix) : ItP1 ix (j + 1) y ps mk :=
  ⟨h.1, h.2.1, partsGo_mono (by omega) h.2.2.1, fun e => by have := hn e; omega⟩
theorem itP_end {ix y mk : Int} {j : Nat} {ps : List Part} (h : ItP1 ix j y ps mk) (hl : ps.length ≤ 3) (hj : (j : Int) ≤ ix) (hc : 0 < ps.length ∨ ix ≤ (j : Int)) : ItPE ix y ps mk := by
  have hne : 0 < ps.length := by
    rcases hc with hc | hc
    · exact hc
    · exact List.length_pos_iff.2 (fun e => by have := h.2.2.2 e; omega)
  unfold ItPE itemOk
  have hy : ¬ y = 0 := by have := h.1; omega
  have hgo := partsGo_mono hj h.2.2.1
  simp only [Bool.and_eq_true, inR_iff, if_neg hy, partsFitL]
  exact ⟨h.2.1, h.1, ⟨by omega, by omega⟩, hgo⟩
def ItG (wa : World) (b N X L : Nat) (P : Int → List Part → Int → Prop) (wr : World) : Prop :=
  ∃ y v ps mk, wr.heap[X]? = some (.cells #[.int .i64 y, v, .int .i64 mk] 25 (0, 0)) ∧ PartSl wr (X + 1) v ps ∧ ps.length ≤ L ∧ Rd wr b N ∧ wa.grownBy wr (some b) ∧ wa.heap.size ≤ X ∧ b < wa.heap.size ∧ P y ps mk
theorem ItG.mono {wa wr : World} {b N N' X L L' : Nat} {P : Int → List Part → Int → Prop} (h : ItG wa b N X L P wr) (hN : N ≤ N') (hL : L ≤ L') : ItG wa b N' X L' P wr := by
  obtain ⟨y, v, ps, mk, h1, h2, h3, h4, r⟩ := h
  exact ⟨y, v, ps, mk, h1, h2, Nat.le_trans h3 hL, h4.mono hN, r⟩
theorem afterPushG {b X N L : Nat} {P : Int → List Part → Int → Prop} {wa w4 w5 : World} {o : Obj} {y mk : Int} {v v' : Value} {ps ps' : List Part} (hX : w4.heap[X]? = some (.cells #[.int .i64 y, v, .int .i64 mk] 25 (0, 0))) (hP : PartSl w4 (X + 1) v ps) (hR : Rd w4 b N) (h4 : wa.grownBy w4 (some b)) (h5 : wa.heap.size ≤ X) (h6 : b < wa.heap.size)
    (hg : (w4.alloc o).grownBy w5 v.ownBlock) (hown : PartSl w5 (X + 1) v' ps') (hl : ps'.length ≤ L) (hG : P y ps' mk) :
    w5.heap[X]? = some (.cells #[.int .i64 y, v, .int .i64 mk] 25 (0, 0)) ∧ ItG wa b N X L P (w5.setCell ⟨X, 1, none⟩ v') := by
  have hXl := heap_lt hX
  have hsz := h4.size
  have hb : ∀ k, k ≤ X → w5.heap[k]? = w4.heap[k]? := fun k hk => (hg.block k (by simp; omega) (fun e => by have := (World.ownsRow.lt hP k e.symm).1; omega)).trans (heap_alloc_old w4 _ (by omega))
  have hX5 := (hb X (Nat.le_refl _)).trans hX
  have hR5 : Rd w5 b N := hR.kept (fun k hk => hb k (by omega))
  have hg5 : wa.grownBy w5 (some b) := ⟨hg.os.trans h4.os, hg.tape.trans h4.tape, hg.output.trans h4.output, Nat.le_trans hsz (by have := hg.size; simp at this; omega), fun k hk hne => (hb k (by omega)).trans (h4.block k hk hne)⟩
  have ks := keepSet 1 v' hown hR5 hg5 h5 h6
  exact ⟨hX5, y, v', ps', mk, stX1 hX5 v', ks.1, hl, ks.2.1, ks.2.2, h5, h6, hG⟩


set_option maxHeartbeats 1000000 in
theorem odd_zero (b : Nat) (w : World) : Calls Tryd.prog 38 #[.pointer (some ⟨b, 0, none⟩), .int .i64 0] w fun e w' => e = .returned (.bool false) ∧ w' = w := by
  go_enter Tryd.func38, Tryd.ntmps38
  go_wp2_with fail
  go_ret
  exact ⟨rfl, rfl⟩
def Drew20G (ix : Int) (w : World) (b n : Nat) (e : Ending) (w' : World) : Prop := ∃ (x : Item) (A : Option Addr) (c : Nat), e = .returned (.agg #[.int .i64 x.yield, .slice A x.parts.length c, .int .i64 x.marks]) ∧ PartsAt w' A x.parts ∧ TB w' A 48 ∧ x.parts.length ≤ 3 ∧ itemOk x ix = true ∧ Rd w' b (n + 20) ∧ w.grownBy w' (some b)

set_option maxRecDepth 100000 in
set_option maxHeartbeats 4000000 in
theorem l20Item_good (b n : Nat) (ix : Int) (w : World) (hR : Rd w b n) (hn : n ≤ 90000) (hi0 : 0 ≤ ix) (hi1 : ix ≤ 6) :
    Calls Tryd.prog 20 #[.pointer (some ⟨b, 0, none⟩), .int .i64 ix, .int .i64 0] w (Drew20G ix w b n) := by
  have hblt := hR.lt
  have hRa : Rd (w.alloc (.cells #[.int .i64 0, .slice none 0 0, .int .i64 0] 25)) b n := hR.kept (fun j hj => heap_alloc_old w _ (by omega))
  have HRA := hide hRa
  clear hRa
  go_enter Tryd.func20, Tryd.ntmps20
  go_wp2_with fail
  refine (pick_any b n 32 _ HRA.out (by omega) (by omega)).mono ?_
  rintro e w1 ⟨v1, rfl, hv10, hv11, hR1, hg1⟩
  go_wp2_with fail
  refine (pick_any b _ 2 _ hR1 (by omega) (by omega)).mono ?_
  rintro e w2 ⟨v2, rfl, hv20, hv21, hR2, hg2⟩
  have hmb := mul_bit hv10 (by omega) hv20 (by omega)
  obtain ⟨hmb0, hmb1⟩ := hmb
  obtain ⟨wa, hwa⟩ : ∃ wa, wa = w.alloc (.cells #[.int .i64 0, .slice none 0 0, .int .i64 0] 25) := ⟨_, rfl⟩
  have hSt : ItG wa b (n + 2) w2.heap.size 3 ItP0 (w2.alloc (.cells #[.int .i64 0, .slice none 0 0, .int .i64 (v1 * v2)] 25)) := by
    subst hwa
    have hg := hg1.trans hg2
    refine ⟨0, .slice none 0 0, [], v1 * v2, heap_alloc_new w2 _, World.ownsRow_nil _ _ _ _, by simp, hR2.kept (fun j hj => heap_alloc_old w2 _ (by have := hR2.lt; omega)), hg.trans (World.grownBy_alloc w2 _ _), hg.size, by simp; omega, ⟨rfl, rfl, hmb0, hmb1⟩⟩
  have HST := hide hSt
  clear hSt hR1 hR2 HRA hg1 hg2
  have hs1 : 1 ≤ n + 3 := by omega
  go_upto_region 2 with fail
  go_cut [21] (fun s21 wc => ∃ β : Bool, s21 = .bool β ∧ Hid (β = true → 0 < ix) ∧ ItG wa b (n + 3) w2.heap.size 3 ItP0 wc)
  case first =>
    by_cases hix : 0 < ix
    · have hd : decide (0 < ix) = true := decide_eq_true hix
      obtain ⟨y, v, ps, mk, hX, hP, hl, hRd, hg, h5, h6, hG⟩ := HST.out
      have HG := hide hG
      clear hG
      have HX := hide (And.intro hX (And.intro hP (And.intro hg (And.intro h5 h6))))
      clear hX hP hg h5 h6
      go_wp2_with fail
      refine (pick_any b _ 3 _ hRd (by omega) (by omega)).mono ?_
      rintro e w3 ⟨q, rfl, hq0, hq1, hR3, hg3⟩
      obtain ⟨hX, hP, hg, h5, h6⟩ := HX.out
      have hkp := keepPick hX hP hg h5 h6 hg3 hR3
      have HKP : Hid (ItG wa b (n + 3) w2.heap.size 3 ItP0 w3) := hide ⟨y, v, ps, mk, hkp.1, hkp.2.1, hl, hkp.2.2.1, hkp.2.2.2, h5, h6, HG.out⟩
      clear hX hP hg hkp hg3 hR3
      go_wp2_with fail
      go_meet
      exact ⟨_, rfl, hide (fun _ => hix), HKP.out⟩
    · have hd : decide (0 < ix) = false := decide_eq_false hix
      obtain ⟨y, v, ps, mk, hX, hP, hl, hRd, hg, h5, h6, hG⟩ := HST.out
      have HG := hide hG
      clear hG
      have HKP : Hid (ItG wa b (n + 3) w2.heap.size 3 ItP0 (w2.alloc (.cells #[.int .i64 0, .slice none 0 0, .int .i64 (v1 * v2)] 25))) := hide ⟨y, v, ps, mk, hX, hP, hl, hRd.mono (by omega), hg, h5, h6, HG.out⟩
      clear hX hP hRd hg
      go_wp2_with fail
      go_meet
      exact ⟨_, rfl, hide (fun h => absurd h (by decide)), HKP.out⟩
  case rest =>
    obtain ⟨β, rfl, HBI, hSt⟩ := hcut
    have HS2 := hide hSt
    clear hSt HST
    generalize w2.heap.size = X at *
    go_upto_if 21 with fail
    go_cut [8] (fun s8 wc => ItG wa b (n + 17) X 3 (ItPE ix) wc)
    case first =>
      cases β with
      | false =>
        go_wp2_with fail
        go_meet
        obtain ⟨y, v, ps, mk, hX, hP, hl, hRd, hg, h5, h6, hG⟩ := HS2.out
        exact ⟨y, v, ps, mk, hX, hP, hl, hRd.mono (by omega), hg, h5, h6, itP_none hG⟩
      | true =>
        have hix : 0 < ix := HBI.out rfl
        obtain ⟨y, v, ps, mk, hX, hP, hl, hRd, hg, h5, h6, hG⟩ := HS2.out
        have HG := hide hG
        clear hG
        have HX := hide (And.intro hX (And.intro hP (And.intro hg (And.intro h5 h6))))
        clear hX hP hg
        go_wp2_with fail
        refine (pick_any b _ 6 _ hRd (by omega) (by omega)).mono ?_
        rintro e w3 ⟨q, rfl, hq0, hq1, hR3, hg3⟩
        obtain ⟨hX, hP, hg, -, -⟩ := HX.out
        obtain ⟨hX3, hP3, -, hg3'⟩ := keepPick hX hP hg h5 h6 hg3 hR3
        have ks := keepSet 0 (.int .i64 (1 + q)) hP3 hR3 hg3' h5 h6
        have HIT : Hid (ItG wa b (n + 4) X 3 (ItP1 ix 0) (w3.setCell ⟨X, 0, none⟩ (.int .i64 (1 + q)))) := hide ⟨1 + q, v, ps, mk, stX0 hX3 _, ks.1, hl, ks.2.1, ks.2.2, h5, h6, itP_start HG.out hq0 (by omega) hix⟩
        obtain ⟨hx0, -, -, hxf⟩ := cellsX hX3
        have hf0 := hxf 0
        clear hX hP hg hX3 hP3 hg3' hg3 hR3 ks hxf HX
        go_wp2_with fail
        clear hx0 hf0
        go_loopw [8] (fun i wr => ∃ j : Nat, i = .int .i64 j ∧ (j : Int) ≤ ix ∧ ItG wa b (n + 4 + 2 * j) X 3 (ItP1 ix j) wr) (fun i _ => (ix - intOf i).toNat)
        case atStart => exact ⟨0, rfl, hi0, HIT.out⟩
        case round =>
          obtain ⟨j, rfl, hj, y, v, ps, mk, hX, hP, hl, hRd, hg, h5, h6, hG⟩ := hrel
          have HG := hide hG
          clear hG
          by_cases hji : (j : Int) < ix
          · have HX := hide (And.intro hX (And.intro hP hg))
            obtain ⟨A, c, hv, -⟩ := hP.form
            subst hv
            obtain ⟨-, hx1, -, -⟩ := cellsX hX
            clear hX hP hg
            by_cases hl3 : (ps.length : Int) < 3
            · go_wp2_with fail
              refine (pick_any b _ 2 _ hRd (by omega) (by omega)).mono ?_
              rintro e w4 ⟨q, rfl, hq0, hq1, hR4, hg4⟩
              obtain ⟨hX4, hP4, -, hg4'⟩ := keepPick HX.out.1 HX.out.2.1 HX.out.2.2 h5 h6 hg4 hR4
              obtain ⟨-, hx14, -, hxf4⟩ := cellsX hX4
              have HX4 := hide (And.intro hX4 (And.intro hP4 (And.intro hg4' hR4)))
              clear hX4 hP4 hg4' hg4 hR4 hx1 HX hxf4
              have hjw : IntKind.i64.wrap (ix - 1) = ix - 1 := IntWalk.i64_in _ (by omega)
              by_cases happ : q = 0 ∨ ((j : Int) = ix - 1 ∧ ps.length = 0)
              · have hfacts : (q == 0) = true ∨ ((q == 0) = false ∧ ((j : Int) == ix - 1) = true ∧ ((ps.length : Int) == 0) = true) := by
                  rcases happ with h | ⟨h1, h2⟩
                  · exact .inl (by simp [h])
                  · by_cases h : q = 0
                    · exact .inl (by simp [h])
                    · exact .inr ⟨by simp [h], by simp [h1], by simp [h2]⟩
                clear happ
                have HPK : Hid (Calls Tryd.prog 30 #[.pointer (some ⟨b, 0, none⟩), .int .i64 4] w4.drew (Picked w4 b (n + 4 + 2 * j + 1) 4)) := hide ((pick_any b (n + 4 + 2 * j + 1) 4 w4.drew HX4.out.2.2.2 (by omega) (by omega)).mono fun _ _ h => Picked.undrew h)
                rcases hfacts with h1 | ⟨h1, h2, h3⟩
                all_goals
                  go_wp2_with fail
                  go_region_law (first | (refine step_push_part (by rfl) _ _ (by rfl) (X + 1) (.slice A ps.length c) ps (by rfl) (World.ownsRow.alloc hP5 _) w5.heap.size ⟨j, 1 + q5⟩ (by rfl) (heap_alloc_new w5 _) (by omega) (by simp; omega) ?_; intro g' cap w6 hown hgrow; obtain ⟨hX6, hI6⟩ := afterPushG (L := 3) (P := ItP1 ix (j + 1)) hX5 hP5 hR5 hg5' h5 h6 hgrow hown (by simp; omega) (itP_push HG.out hq50 (by omega)); have HI6 := hide hI6; obtain ⟨-, hx16, -, hxf6⟩ := cellsX hX6; have hf6 := hxf6 1; clear hI6 hown hgrow hX6 hxf6) | (go_simp; go_at_call 30; refine HPK.out.mono ?_; rintro e w5 ⟨q5, rfl, hq50, hq51, hR5, hg5⟩; obtain ⟨hX5, hP5, -, hg5'⟩ := keepPick HX4.out.1 HX4.out.2.1 HX4.out.2.2.1 h5 h6 hg5 hR5; obtain ⟨-, hx15, -, -⟩ := cellsX hX5; have hw5 : IntKind.i64.wrap (1 + q5) = 1 + q5 := IntWalk.i64_in _ (by omega); have hXl := heap_lt hX5))
                  all_goals
                    go_wp2_with fail
                    go_roundw
                    case rel => exact ⟨j + 1, by go_num, by omega, HI6.out.mono (by omega) (by omega)⟩
                    case measure => simp [intOf]; omega
              · have h1 : (q == 0) = false := by
                  have h4 : ¬ q = 0 := fun h => happ (.inl h)
                  simpa using h4
                by_cases hje : (j : Int) = ix - 1
                · have h2 : ((j : Int) == ix - 1) = true := by simp [hje]
                  have h3 : ((ps.length : Int) == 0) = false := by
                    have h4 : ¬ ps.length = 0 := fun h => happ (.inr ⟨hje, h⟩)
                    simpa using h4
                  have HNE : Hid (ps = [] → (j : Int) + 1 < ix) := hide (fun e => absurd ⟨hje, by rw [e]; rfl⟩ (fun h => happ (.inr h)))
                  clear hje happ
                  go_wp2_with fail
                  go_roundw
                  case rel => exact ⟨j + 1, by go_num, by omega, y, _, ps, mk, HX4.out.1, HX4.out.2.1, hl, HX4.out.2.2.2.mono (by omega), HX4.out.2.2.1, h5, h6, itP_skip HG.out HNE.out⟩
                  case measure => simp [intOf]; omega
                · have h2 : ((j : Int) == ix - 1) = false := by simp [hje]
                  have HNE : Hid (ps = [] → (j : Int) + 1 < ix) := hide (fun _ => by omega)
                  clear hje happ
                  go_wp2_with fail
                  go_roundw
                  case rel => exact ⟨j + 1, by go_num, by omega, y, _, ps, mk, HX4.out.1, HX4.out.2.1, hl, HX4.out.2.2.2.mono (by omega), HX4.out.2.2.1, h5, h6, itP_skip HG.out HNE.out⟩
                  case measure => simp [intOf]; omega
            · go_wp2_with fail
              go_meet
              exact ⟨y, _, ps, mk, HX.out.1, HX.out.2.1, hl, hRd.mono (by omega), HX.out.2.2, h5, h6, itP_end HG.out hl (by omega) (.inl (by omega))⟩
          · go_wp2_with fail
            go_meet
            exact ⟨y, v, ps, mk, hX, hP, hl, hRd.mono (by omega), hg, h5, h6, itP_end HG.out hl (by omega) (.inr (by omega))⟩
    case rest =>
      obtain ⟨y, v, ps, mk, hX, hP, hl, hRd, hg, h5, h6, hG⟩ := hcut
      have HG := hide hG
      clear hG
      have HX := hide (And.intro hX (And.intro hP hg))
      clear hX hP hg HS2
      go_wp2_with fail
      refine (odd_zero b _).mono ?_
      rintro e w3 ⟨rfl, h3⟩
      have hw3 : w3 = wc := by first | exact h3 | exact h3.symm
      rw [hw3]
      clear hw3 h3 w3
      obtain ⟨hX, hP, hg⟩ := HX.out
      clear HX
      obtain ⟨A, c, hv, hpa⟩ := hP.form
      subst hv
      obtain ⟨hx0, hx1, hx2, hxf⟩ := cellsX hX
      have hRb : wc.heap[w.heap.size]? = some (.cells #[.int .i64 0, .slice none 0 0, .int .i64 0] 25 (0, 0)) := by
        refine (hg.block w.heap.size (by rw [hwa]; simp) (fun e => by injection e with e; omega)).trans ?_
        rw [hwa]
        exact heap_alloc_new w _
      obtain ⟨hr0, hr1, hr2, hrf⟩ := cellsX hRb
      have hrf0 := hrf 0
      have hrf1 := hrf 1
      have hrf2 := hrf 2
      have hne : X ≠ w.heap.size := by rw [hwa] at h5; simp at h5; omega
      have HX := hide (And.intro hX (And.intro hP (And.intro hg hRb)))
      clear hX hP hg hRb hxf hrf
      go_wp2_with fail
      obtain ⟨f0, f1, f2, -⟩ := cellsX (stX2 (stX1 (stX0 HX.out.2.2.2 y) (.slice A ps.length c)) mk)
      have hsb : ∀ j, j ≠ w.heap.size → (((wc.setCell ⟨w.heap.size, 0, none⟩ (.int .i64 y)).setCell ⟨w.heap.size, 1, none⟩ (.slice A ps.length c)).setCell ⟨w.heap.size, 2, none⟩ (.int .i64 mk)).heap[j]? = wc.heap[j]? := fun j hj => by
        rw [heap_setCell_other _ ⟨w.heap.size, 2, none⟩ j _ hj, heap_setCell_other _ ⟨w.heap.size, 1, none⟩ j _ hj, heap_setCell_other _ ⟨w.heap.size, 0, none⟩ j _ hj]
      refine bodyPost_ret (v := .agg #[.int .i64 y, .slice A ps.length c, .int .i64 mk]) (by simp [results, Tryd.results20, go_sem, f0, f1, f2]) rfl ⟨⟨y, ps, mk⟩, A, c, rfl, ?_, ?_, hl, HG.out, (hRd.mono (by omega)).kept (fun j hj => hsb j (by omega)), ?_⟩
      · have hg : wc.grownBy (((wc.setCell ⟨w.heap.size, 0, none⟩ (.int .i64 y)).setCell ⟨w.heap.size, 1, none⟩ (.slice A ps.length c)).setCell ⟨w.heap.size, 2, none⟩ (.int .i64 mk)) (some w.heap.size) := ⟨rfl, rfl, rfl, by simp, fun j _ hj => hsb j (fun e => hj (by rw [e]))⟩
        have hP' : PartSl _ (X + 1) (.slice A ps.length c) ps := World.ownsRow.kept HX.out.2.1 hg (by
          cases e : (Value.slice A ps.length c).ownBlock with
          | none => exact .inl rfl
          | some j => exact .inr (fun e' => by injection e' with e'; have := (World.ownsRow.lt HX.out.2.1 j e).1; rw [hwa] at h5; simp at h5; omega))
        obtain ⟨A', c', e, hpa'⟩ := hP'.form
        injection e with e
        rw [← e] at hpa'
        exact hpa'
      · have ht := HX.out.2.1.tb
        intro a ha
        obtain ⟨hsp, cs, hcs⟩ := ht a ha
        refine ⟨hsp, cs, (hsb _ (fun e => ?_)).trans hcs⟩
        have hb := World.ownsRow.lt HX.out.2.1 a.block (by rw [ha]; rfl)
        rw [hwa] at h5
        simp at h5
        omega
      · have hg := HX.out.2.2.1
        rw [hwa] at hg
        exact ⟨hg.os, hg.tape, hg.output, (by have := hg.size; simp only [World.size_alloc] at this; simp; omega), fun j hj hne => (hsb j (by omega)).trans ((hg.block j (by simp; omega) hne).trans (heap_alloc_old w _ hj))⟩
end Go.Proofs.YtaelapimchmbcaaDoor
