/- For all drawn bytes the law of PlanCost answers true, and its argument reads as it did.
   Conditions: none. -/
import Derived.Test.YtgagfaajilbmmaaDoorLawKit
import Derived.Test.YtgagfaajilbmmaaDoorDrawPC
import Derived.Test.YtgagfaajilbmmaaDoorCostMath
namespace Go.Proofs.YtgagfaajilbmmaaDoor
open Go.RowKit Go.ChangeShapes Go.WideShapes Go.ChangeAt Go.Deep

theorem litI (w : World) (lo : Nat) (h : lo ≤ w.heap.size) : IntSl (w.alloc (.cells #[] 3)) lo (.slice (some ⟨w.heap.size, 0, none⟩) 0 0) [] := World.ownsRow_lit w #[] 0 h (by unfold maxLen; omega) rfl

theorem box_new (W : World) (u v : Value) : (W.alloc (.cells #[u, v] 26)).cell? ⟨W.heap.size, 0, none⟩ = some u ∧ (W.alloc (.cells #[u, v] 26)).cell? ⟨W.heap.size, 1, none⟩ = some v ∧ W.heap.size < (W.alloc (.cells #[u, v] 26)).heap.size := by
  have h := heap_alloc_new W (.cells #[u, v] 26)
  exact ⟨by rw [cell_of_row _ _ 0 _ _ _ h]; rfl, by rw [cell_of_row _ _ 1 _ _ _ h]; rfl, by simp⟩
theorem box_set {W : World} {X : Nat} {a b u v : Value} (h : W.heap[X]? = some (.cells #[a, b] 26 (0, 0))) : ((W.setCell ⟨X, 0, none⟩ u).setCell ⟨X, 1, none⟩ v).cell? ⟨X, 0, none⟩ = some u ∧ ((W.setCell ⟨X, 0, none⟩ u).setCell ⟨X, 1, none⟩ v).cell? ⟨X, 1, none⟩ = some v ∧ X < ((W.setCell ⟨X, 0, none⟩ u).setCell ⟨X, 1, none⟩ v).heap.size := by
  have h0 : W.rowIs X 26 2 (fun i => if i = 0 then a else b) := ⟨_, h, rfl, fun i hi => by rcases (by omega : i = 0 ∨ i = 1) with rfl | rfl <;> rfl⟩
  have hk : ((W.setCell ⟨X, 0, none⟩ u).setCell ⟨X, 1, none⟩ v).rowIs X 26 2 (fun i => if i = 0 then u else v) := ((h0.set 0 _).set 1 _).congr (fun i hi => by rcases (by omega : i = 0 ∨ i = 1) with rfl | rfl <;> rfl)
  have f0 := hk.cell (i := 0) (by omega)
  have f1 := hk.cell (i := 1) (by omega)
  rw [if_pos rfl] at f0
  rw [if_neg (by omega)] at f1
  exact ⟨f0, f1, by simp; exact heap_ltP h⟩
theorem intsl_ne {W : World} {lo g n c X : Nat} {xs : List Int} {cs : Array Value} (h : IntSl W lo (.slice (some ⟨g, 0, none⟩) n c) xs) (hX : W.heap[X]? = some (.cells cs 26 (0, 0))) : g ≠ X := fun e => by
  rcases h.2 with ⟨hv, _⟩ | ⟨g', cap, cur, hv, _, hh, _⟩
  · cases hv
  · injection hv with e1 e2 e3
    injection e1 with e1
    injection e1 with e1
    subst e1 e
    rw [hh] at hX
    injection hX with hX
    injection hX with _ hX
    exact absurd hX (by decide)

/-- A copy of the runs in a box of its own, beside what the box held. -/
def CopyBox (X gN cN n : Nat) (rs dl : List Int) (dv u : Value) (w3 w5 W : World) : Prop :=
  (W.cell? ⟨X, 0, none⟩ = some (.slice (some ⟨gN, 0, none⟩) n cN) ∧ W.cell? ⟨X, 1, none⟩ = some u ∧ X < W.heap.size) ∧ IntSl W w5.heap.size (.slice (some ⟨gN, 0, none⟩) n cN) rs ∧ IntSl W w3.heap.size dv dl ∧ Below w3.heap.size w3 W ∧ X ≠ gN ∧ w5.heap.size ≤ X

theorem CopyBox.drew {X gN cN n : Nat} {rs dl : List Int} {dv u : Value} {w3 w5 W : World} (h : CopyBox X gN cN n rs dl dv u w3 w5 W) : CopyBox X gN cN n rs dl dv u w3 w5 W.drew := ⟨h.1, IntSl.drew h.2.1, IntSl.drew h.2.2.1, h.2.2.2.1.drew, h.2.2.2.2.1, h.2.2.2.2.2⟩
theorem copyBox_new {gN cN n : Nat} {rs dl : List Int} {dv u : Value} {w3 w5 W : World} (h1 : IntSl W w5.heap.size (.slice (some ⟨gN, 0, none⟩) n cN) rs) (h2 : IntSl W w3.heap.size dv dl) (h3 : Below w3.heap.size w3 W) (h4 : w5.heap.size ≤ W.heap.size) :
    CopyBox W.heap.size gN cN n rs dl dv u w3 w5 (W.alloc (.cells #[.slice (some ⟨gN, 0, none⟩) n cN, u] 26)) :=
  ⟨box_new W _ _, World.ownsRow.alloc h1 _, World.ownsRow.alloc h2 _, h3.alloc h3.size _, by have := (World.ownsRow.lt h1 gN rfl).2; omega, h4⟩
theorem copyBox_set {X gN cN n : Nat} {rs dl : List Int} {dv u a b : Value} {w3 w5 W : World} (hX : W.heap[X]? = some (.cells #[a, b] 26 (0, 0))) (h1 : IntSl W w5.heap.size (.slice (some ⟨gN, 0, none⟩) n cN) rs) (h2 : IntSl W w3.heap.size dv dl) (h3 : Below w3.heap.size w3 W) (h4 : w5.heap.size ≤ X) (h5 : w3.heap.size ≤ w5.heap.size) (h6 : dv.ownBlock = none ∨ dv.ownBlock ≠ some X) :
    CopyBox X gN cN n rs dl dv u w3 w5 ((W.setCell ⟨X, 0, none⟩ (.slice (some ⟨gN, 0, none⟩) n cN)).setCell ⟨X, 1, none⟩ u) := by
  have hne := intsl_ne h1 hX
  have hg : W.grownBy ((W.setCell ⟨X, 0, none⟩ (.slice (some ⟨gN, 0, none⟩) n cN)).setCell ⟨X, 1, none⟩ u) (some X) := ⟨rfl, rfl, rfl, by simp, fun k _ hk => by rw [heap_setCell_other _ ⟨X, 1, none⟩ k _ (fun e => hk (by rw [e])), heap_setCell_other _ ⟨X, 0, none⟩ k _ (fun e => hk (by rw [e]))]⟩
  exact ⟨box_set hX, h1.row hg (.inr (fun e => by have e : some gN = some X := e; injection e with e; exact hne e)), h2.row hg h6, h3.grown hg h3.size (fun j hj => by injection hj with hj; omega), fun e => hne e.symm, h4⟩

theorem copied {w1s n gg cap6 q : Nat} {U V dv : Value} {rs dl : List Int} {w3 w5 W w6 : World} (hk3 : w3.cell? ⟨w1s, 0, none⟩ = some V ∧ w3.cell? ⟨w1s, 1, none⟩ = some U ∧ w1s < w3.heap.size)
    (hd : IntSl W w3.heap.size dv dl) (hb : Below w3.heap.size w3 W) (hw : w5.heap.size ≤ W.heap.size) (hq : w3.heap.size ≤ q) (hne : dv.ownBlock = none ∨ dv.ownBlock ≠ some q)
    (hown : IntSl w6 w5.heap.size (.slice (some ⟨gg, 0, none⟩) (([] : List Int).length + n) cap6) ([] ++ rs)) (hg : W.grownBy w6 (some q)) :
    (IntSl w6 w5.heap.size (.slice (some ⟨gg, 0, none⟩) n cap6) rs ∧ IntSl w6 w3.heap.size dv dl ∧ Below w3.heap.size w3 w6 ∧ w5.heap.size ≤ w6.heap.size) ∧ w6.cell? ⟨w1s, 1, none⟩ = some U ∧ w1s < w6.heap.size := by
  have hB : Below w3.heap.size w3 w6 := hb.grown hg hb.size (fun j hj => by injection hj with hj; omega)
  have hk := keepBox hk3 hB hk3.2.2
  rw [List.length_nil, Nat.zero_add] at hown
  exact ⟨⟨hown, hd.row hg hne, hB, Nat.le_trans hw hg.size⟩, hk.2.1, hk.2.2⟩
theorem copiedBox {X q : Nat} {W w6 : World} (hX : W.heap[X]? = some (.cells #[.slice none 0 0, .slice none 0 0] 26 (0, 0))) (hg : W.grownBy w6 (some q)) (hne : X ≠ q) :
    w6.heap[X]? = some (.cells #[.slice none 0 0, .slice none 0 0] 26 (0, 0)) ∧ w6.cell? ⟨X, 0, none⟩ = some (.slice none 0 0) ∧ w6.cell? ⟨X, 1, none⟩ = some (.slice none 0 0) ∧ w6.frozen? ⟨X, 0, none⟩ = false ∧ w6.frozen? ⟨X, 1, none⟩ = false := by
  have h := (hg.block X (heap_ltP hX) (fun e => hne (by injection e))).trans hX
  exact ⟨h, by first | (rw [cell_of_row w6 _ 0 _ _ _ h]; rfl) | rw [cell_of_row w6 _ 0 _ _ _ h], by first | (rw [cell_of_row w6 _ 1 _ _ _ h]; rfl) | rw [cell_of_row w6 _ 1 _ _ _ h], frozen_of_row w6 X 0 _ _ h, frozen_of_row w6 X 1 _ _ h⟩

theorem boxFacts {W : World} {X : Nat} (h : W.heap[X]? = some (.cells #[.slice none 0 0, .slice none 0 0] 26 (0, 0))) : W.cell? ⟨X, 0, none⟩ = some (.slice none 0 0) ∧ W.cell? ⟨X, 1, none⟩ = some (.slice none 0 0) ∧ W.frozen? ⟨X, 0, none⟩ = false ∧ W.frozen? ⟨X, 1, none⟩ = false :=
  ⟨by rw [cell_of_row W _ 0 _ _ _ h]; rfl, by rw [cell_of_row W _ 1 _ _ _ h]; rfl, frozen_of_row W X 0 _ _ h, frozen_of_row W X 1 _ _ h⟩
theorem belowBox {w W : World} {n X : Nat} (H : Below n w W) (hX : n ≤ X) (u v : Value) : Below n w ((W.setCell ⟨X, 0, none⟩ u).setCell ⟨X, 1, none⟩ v) := (H.setCell (p := ⟨X, 0, none⟩) hX u).setCell (p := ⟨X, 1, none⟩) hX v

set_option maxRecDepth 100000 in
set_option maxHeartbeats 8000000 in
theorem lawPlanCost_any (A : Option Addr) (c m : Nat) (w : World) (hB : BytesIn w A m) (hc : m ≤ c) (hc2 : c ≤ 9223372036854775807) :
    Calls Tryd.prog 3 #[.slice A m c] w fun e w' => e = .returned (.bool true) ∧ Below w.heap.size w w' := by
  by_cases hlen : (1048576 : Int) < m
  · go_enter Tryd.func3, Tryd.ntmps3
    go_wp2_with fail
    go_ret
    exact ⟨rfl, by go_grown⟩
  · go_enter Tryd.func3, Tryd.ntmps3
    go_wp2_with fail
    refine (drawPlanCost_any A c m w hB (by omega) hc hc2).mono ?_
    rintro e w1 ⟨l, A1, c1, ps, rs, lf, g2, c2, d1, e1, V1, U1, rfl, hI, hl, hp, hX, hxl, hV, hvl, hrx, hb1⟩
    have hl' : l.length ≤ 1048576 := by omega
    have hx' : ps.length ≤ 1048576 := by omega
    have hv' : rs.length ≤ 1048576 := by omega
    have HP : Hid (∀ x ∈ l, x.parts.length ≤ 1048576) := hide (fun x hx => by have := hp x hx; omega)
    have HRX := hide hrx
    have hBa : Below w1.heap.size w1 (w1.alloc (.cells #[.slice V1 rs.length d1, .slice U1 lf.length e1] 26)) := (Below.refl _ _).alloc (Nat.le_refl _) _
    have hb1a := next hb1 hBa
    have HI1 := hide (hI.below hBa)
    have HX1 := hide (hX.below hBa)
    have HV1 := hide (hV.below hBa)
    obtain ⟨x, HC⟩ : ∃ x, Hid (costL l ps rs = x) := ⟨_, hide rfl⟩
    have hbb : (x != x) = false := by simp
    clear hp hI hX hV hBa hrx
    go_wp2_with fail
    refine (implPlanCost_any _ _ _ _ _ _ _ _ _ _ _ lf _ HI1.out hl' HP.out HX1.out hx' HV1.out hv').mono ?_
    rintro e w2 ⟨rfl, hB2⟩
    rw [HC.out]
    have hb2 := next hb1a hB2
    have hk2 : w2.cell? ⟨w1.heap.size, 0, none⟩ = some (.slice V1 rs.length d1) ∧ w2.cell? ⟨w1.heap.size, 1, none⟩ = some (.slice U1 lf.length e1) ∧ w1.heap.size < w2.heap.size := keepBox (by simp) hB2 (by simp)
    obtain ⟨hq1, hq2, hq3⟩ := hk2
    have HI2 := hide (HI1.out.below hB2)
    have HX2 := hide (HX1.out.below hB2)
    have HV2 := hide (HV1.out.below hB2)
    clear HI1 HX1 HV1
    go_wp2_with fail
    refine (specPlanCost_any _ _ _ _ _ _ _ _ _ _ _ lf _ HI2.out hl' HP.out HX2.out hx' HV2.out hv').mono ?_
    rintro e w3 ⟨rfl, hB3⟩
    rw [HC.out]
    have hb3 := next hb2 hB3
    have HK3 := hide (keepBox (And.intro hq1 (And.intro hq2 hq3)) hB3 hq3)
    have HI3 := hide (HI2.out.below hB3)
    have HX3 := hide (HX2.out.below hB3)
    have HV3 := hide (HV2.out.below hB3)
    clear hB2 hB3 HI2 HX2 HV2 hq1 hq2 hq3
    by_cases hx0 : x < 0
    · have hxe : x = -1 := by rw [← HC.out] at hx0 ⊢; exact cost_low hx0
      subst hxe
      go_wp2_with fail
      refine (alive_any _).mono ?_
      rintro e w5 ⟨rfl, hB5⟩
      go_wp2_with fail
      go_ret
      exact ⟨rfl, next hb3 hB5⟩
    · have hcp := costL_parts (l := l) (prices := ps) (runs := rs) (by rw [HC.out]; exact hx0)
      obtain ⟨hpo, hrl, hrr, hce⟩ := hcp
      have hpp := pricesOk_at hpo
      have HIO := hide hpp.1
      have HPR := hide hpp.2.2
      have HRR := hide hrr
      have hxr := costTo_rng (l := l) hrr hpp.2.2 l.length
      rw [← hce, HC.out] at hxr
      have hxb : x ≤ 1399999860 := by have := hxr.2; omega
      have hxp : 0 ≤ x := hxr.1
      have hpl1 : ps.length ≤ l.length := by rw [hpp.2.1]; exact Nat.le_refl _
      have hpl2 : l.length ≤ ps.length := by rw [hpp.2.1]; exact Nat.le_refl _
      have hrl1 : rs.length ≤ l.length := by rw [hrl]; exact Nat.le_refl _
      have hrl2 : l.length ≤ rs.length := by rw [hrl]; exact Nat.le_refl _
      have HMORE : Hid (∀ k, k < l.length → rs.getD k 0 + 1 ≤ 9999999 → costL l ps (rs.set k (rs.getD k 0 + 1)) = x + (if (l.getD k instItem.default).yield = 0 then ps.getD k 0 else 0)) := hide (fun k hk hr => by
        have := cost_more (l := l) (prices := ps) (runs := rs) (by rw [HC.out]; exact hx0) hk hr
        rwa [HC.out] at this)
      have HDBL : Hid (costL l (ps.map (fun p => 2 * p)) rs = -1 ∨ costL l (ps.map (fun p => 2 * p)) rs = 2 * x) := hide (by
        have := cost_double (l := l) (prices := ps) (runs := rs) (by rw [HC.out]; exact hx0)
        rwa [HC.out] at this)
      obtain ⟨n, HRN⟩ : ∃ n, Hid (rs.length = n) := ⟨_, hide rfl⟩
      have HD0 := hide (litI w3 w3.heap.size (Nat.le_refl _))
      have HB0 : Hid (Below w3.heap.size w3 (w3.alloc (.cells #[] 3))) := hide ((Below.refl _ _).alloc (Nat.le_refl _) _)
      clear hpo hrl hrr hce hpp hxr hbb
      go_wp2_with fail
      go_loopw [7, 8] (fun dv i wr => ∃ (k L gD cD : Nat) (dl : List Int), k ≤ ps.length ∧ i = .int .i64 k ∧ L ≤ k ∧ dv = .slice (some ⟨gD, 0, none⟩) L cD ∧ Hid (dl.length = L ∧ dl = (ps.take k).map (fun p => 2 * p)) ∧ IntSl wr w3.heap.size (.slice (some ⟨gD, 0, none⟩) L cD) dl ∧ Below w3.heap.size w3 wr) (fun _ i _ => ps.length - (intOf i).toNat)
      case atStart => exact ⟨0, 0, w3.heap.size, 0, [], Nat.zero_le _, rfl, Nat.le_refl _, rfl, hide ⟨rfl, by simp⟩, HD0.out, HB0.out⟩
      case round =>
        clear HD0 HB0
        obtain ⟨k, L, gD, cD, dl, hk, rfl, hLk, rfl, HDL, hD, hbw⟩ := hrel
        have HD := hide hD
        have HBW := hide hbw
        have hkx := keepBox HK3.out hbw HK3.out.2.2
        obtain ⟨hq1, hq2, hq3⟩ := hkx
        have hdl : dl.length ≤ 8 := by rw [HDL.out.1]; omega
        have hgD := World.ownsRow.lt HD.out gD rfl
        have hgD1 := hgD.1
        have hgD2 := hgD.2
        clear hD hbw hgD
        by_cases hlt : k < ps.length
        · have hkl : k < l.length := by omega
          obtain ⟨bl, offl, Al, cl, rfl, hbl, hi1, -, -, -⟩ := HI3.out k l[k] (List.getElem?_eq_getElem hkl)
          obtain ⟨bp, op, he, hbp, hp1⟩ := HX3.out k ps[k] (List.getElem?_eq_getElem hlt)
          injection he with he
          injection he with he1 he2
          subst he1 he2
          obtain ⟨bv, ov, rfl, hbv, hv1⟩ := HV3.out k (rs[k]'(by omega)) (List.getElem?_eq_getElem (by omega))
          have HYI : Hid ((l.getD k instItem.default).yield = l[k].yield) := hide (by simp [hkl])
          have HPK : Hid (ps.getD k 0 = ps[k]) := hide (by simp [hlt])
          have HRK : Hid (rs.getD k 0 = rs[k]'(by omega)) := hide (by simp [show k < rs.length by omega])
          have HRE : Hid (rs[k]? = some (rs[k]'(by omega))) := hide (List.getElem?_eq_getElem (by omega))
          have hpr := rangeOk_at HPR.out (List.getElem?_eq_getElem hlt)
          have hrr := HRX.out (rs[k]'(by omega)) (List.getElem_mem (by omega))
          have hr0 := (rangeOk_at HRR.out (List.getElem?_eq_getElem (show k < rs.length by omega))).1
          have hyl := (itemsOk_at HIO.out (List.getElem?_eq_getElem hkl)).2.2.1
          have HTK : Hid ((ps.take (k + 1)).map (fun p => 2 * p) = (ps.take k).map (fun p => 2 * p) ++ [2 * ps[k]]) := hide (by rw [List.take_add_one, List.map_append, List.getElem?_eq_getElem hlt]; rfl)
          generalize l[k] = it at *
          generalize ps[k] = p at *
          generalize (rs[k]'(by omega)) = r at *
          have hp0 := hpr.1
          have hp20 := hpr.2
          have hw2p : IntKind.i64.wrap (2 * p) = 2 * p := IntWalk.i64_in _ (by omega)
          have hz : (0 : Int) ≤ k := by omega
          have hzp : (k : Int) < ps.length := by omega
          have hzl : (k : Int) < l.length := by omega
          have hzr : (k : Int) < rs.length := by omega
          have hpc := (HBW.out.cell hbp).trans hp1
          rw [Nat.zero_add] at hpc
          clear hpr
          go_wp2_with (at_builtin; refine wpList_push_int rfl _ _ rfl w3.heap.size (.slice (some ⟨gD, 0, none⟩) L cD) dl rfl (World.ownsRow.alloc HD.out _) wr.heap.size (2 * p) rfl (heap_alloc_new wr _) (by omega) (by simp; omega) ?_; intro g' cap w5 hown hgrow hplace)
          have HD5 : Hid (IntSl w5 w3.heap.size (.slice (some ⟨g', 0, none⟩) (dl.length + 1) cap) (dl ++ [2 * p])) := hide hown
          have HB5 : Hid (Below w3.heap.size w3 w5) := hide ((HBW.out.alloc HBW.out.size _).grown hgrow (by have := HBW.out.size; simp; omega) (fun j hj => by have hj : some gD = some j := hj; injection hj with hj; omega))
          have hgd5 := (World.ownsRow.lt HD5.out g' rfl)
          have hgd6 := hgd5.1
          have hgd7 := hgd5.2
          have hs35 := HB5.out.size
          have HV5 : Hid (IntsAt w5 (some ⟨bv, ov, none⟩) rs) := hide (HV3.out.below HB5.out)
          have hk5 := keepBox HK3.out HB5.out HK3.out.2.2
          obtain ⟨ht1, ht2, ht3⟩ := hk5
          have H1 : Hid (IntSl ((w5.alloc (.cells #[] 3)).drew) w5.heap.size (.slice (some ⟨w5.heap.size, 0, none⟩) 0 0) []) := hide (litI w5 _ (Nat.le_refl _))
          have H2 : Hid (IntSl (((w5.alloc (.cells #[] 3)).alloc (.cells #[.slice none 0 0, .slice none 0 0] 26)).drew) w5.heap.size (.slice (some ⟨w5.heap.size, 0, none⟩) 0 0) []) := hide (World.ownsRow.alloc (litI w5 _ (Nat.le_refl _)) _)
          have H3 : Hid (IntSl (((w5.alloc (.cells #[.slice none 0 0, .slice none 0 0] 26)).alloc (.cells #[] 3)).drew) w5.heap.size (.slice (some ⟨w5.heap.size + 1, 0, none⟩) 0 0) []) := hide (by have := litI (w5.alloc (.cells #[.slice none 0 0, .slice none 0 0] 26)) w5.heap.size (by simp); rw [World.size_alloc] at this; exact this)
          have H1d : Hid (IntSl ((w5.alloc (.cells #[] 3)).drew) w3.heap.size (.slice (some ⟨g', 0, none⟩) (dl.length + 1) cap) (dl ++ [2 * p])) := hide (World.ownsRow.alloc HD5.out _)
          have H2d : Hid (IntSl (((w5.alloc (.cells #[] 3)).alloc (.cells #[.slice none 0 0, .slice none 0 0] 26)).drew) w3.heap.size (.slice (some ⟨g', 0, none⟩) (dl.length + 1) cap) (dl ++ [2 * p])) := hide (World.ownsRow.alloc (World.ownsRow.alloc HD5.out _) _)
          have H3d : Hid (IntSl (((w5.alloc (.cells #[.slice none 0 0, .slice none 0 0] 26)).alloc (.cells #[] 3)).drew) w3.heap.size (.slice (some ⟨g', 0, none⟩) (dl.length + 1) cap) (dl ++ [2 * p])) := hide (World.ownsRow.alloc (World.ownsRow.alloc HD5.out _) _)
          have H1b : Hid (Below w3.heap.size w3 ((w5.alloc (.cells #[] 3)).drew)) := hide (HB5.out.alloc HB5.out.size _).drew
          have H2b : Hid (Below w3.heap.size w3 (((w5.alloc (.cells #[] 3)).alloc (.cells #[.slice none 0 0, .slice none 0 0] 26)).drew)) := hide ((HB5.out.alloc HB5.out.size _).alloc (HB5.out.alloc HB5.out.size _).size _).drew
          have H3b : Hid (Below w3.heap.size w3 (((w5.alloc (.cells #[.slice none 0 0, .slice none 0 0] 26)).alloc (.cells #[] 3)).drew)) := hide ((HB5.out.alloc HB5.out.size _).alloc (HB5.out.alloc HB5.out.size _).size _).drew
          have H2x : Hid ((((w5.alloc (.cells #[] 3)).alloc (.cells #[.slice none 0 0, .slice none 0 0] 26)).drew).heap[w5.heap.size + 1]? = some (.cells #[.slice none 0 0, .slice none 0 0] 26 (0, 0))) := hide (by have := heap_alloc_new (w5.alloc (.cells #[] 3)) (.cells #[.slice none 0 0, .slice none 0 0] 26); rw [World.size_alloc] at this; exact this)
          have H3x : Hid ((((w5.alloc (.cells #[.slice none 0 0, .slice none 0 0] 26)).alloc (.cells #[] 3)).drew).heap[w5.heap.size]? = some (.cells #[.slice none 0 0, .slice none 0 0] 26 (0, 0))) := hide ((heap_alloc_old (w5.alloc (.cells #[.slice none 0 0, .slice none 0 0] 26)) _ (by simp)).trans (heap_alloc_new w5 _))
          clear hown hgrow hplace hgd5 hq1 hq2 hq3 hpc
          go_cut [9] (fun s9 wc => ∃ X gN cN, s9 = .pointer (some ⟨X, 0, none⟩) ∧ CopyBox X gN cN rs.length rs (dl ++ [2 * p]) (.slice (some ⟨g', 0, none⟩) (dl.length + 1) cap) (.slice U1 lf.length e1) w3 w5 wc)
          case first =>
            have HS35 := hide hs35
            have hsm : ([] : List Int).length + rs.length ≤ 1048576 := by simp; omega
            clear HMORE HDBL HRN HIO HPR HRR HRX HC HP hi1 hp1 HYI HPK HRK HRE HTK HDL hyl hgd6 hb3 hb2 hb1a hb1 HBW HD HI3 HX3 HV3 hB
            have hd5 : Below w5.heap.size w5 w5.drew := (Below.refl _ _).drew
            refine wp_region_noPanic ?_
            refine wp_region_held_drew (S := fun W => Below w5.heap.size w5 W) (by kernel_rfl) hd5 (fun hH0 => ?_)
            clear hH0
            generalize w5.drew = wd at *
            have hH0h := hide hd5
            have hzd := hd5.size
            clear hd5
            refine wpAnyH_take (i := 1) (oi := { dst := some 54, op := Op.fieldAddr 26 (Operand.tmp 5) 0, type := 0, pos := "laws.go:294", after := #[], guard := none }) (v := ?v101) rfl (by kernel_rfl) (by kernel_rfl) (by kernel_rfl) (fun _ _ _ h => h) (Or.inl ⟨by rfl, ?hy101⟩) hH0h.out ?rest101
            case hy101 => (intro w9 hS9; go_simp; (try with_reducible rfl))
            simp only [Act.put, List.setIfInBounds_toArray, List.set_cons_zero, List.set_cons_succ]
            refine wpAnyH_take (i := 2) (oi := { dst := some 55, op := Op.load 24 (Operand.tmp 54), type := 24, pos := "laws.go:294", after := #[{ on := 1, ground := Ground.data }], guard := none }) (v := ?v102) rfl (by kernel_rfl) (by kernel_rfl) (by kernel_rfl) (fun _ _ _ h => h) (Or.inl ⟨by rfl, ?hy102⟩) hH0h.out ?rest102
            case hy102 => (intro w9 hS9; have hc91 := (Below.cell (show Below w5.heap.size w5 w9 from hS9) ht3).trans ht1; have hc92 := (Below.cell (show Below w5.heap.size w5 w9 from hS9) ht3).trans ht2; go_simp; (try with_reducible rfl))
            simp only [Act.put, List.setIfInBounds_toArray, List.set_cons_zero, List.set_cons_succ]
            refine wpAnyH_take (i := 4) (oi := { dst := some 57, op := Op.fieldAddr 26 (Operand.tmp 5) 1, type := 0, pos := "laws.go:294", after := #[], guard := none }) (v := ?v103) rfl (by kernel_rfl) (by kernel_rfl) (by kernel_rfl) (fun _ _ _ h => h) (Or.inl ⟨by rfl, ?hy103⟩) hH0h.out ?rest103
            case hy103 => (intro w9 hS9; go_simp; (try with_reducible rfl))
            simp only [Act.put, List.setIfInBounds_toArray, List.set_cons_zero, List.set_cons_succ]
            refine wpAnyH_take (i := 5) (oi := { dst := some 58, op := Op.load 24 (Operand.tmp 57), type := 24, pos := "laws.go:294", after := #[{ on := 4, ground := Ground.data }], guard := none }) (v := ?v104) rfl (by kernel_rfl) (by kernel_rfl) (by kernel_rfl) (fun _ _ _ h => h) (Or.inl ⟨by rfl, ?hy104⟩) hH0h.out ?rest104
            case hy104 => (intro w9 hS9; have hc91 := (Below.cell (show Below w5.heap.size w5 w9 from hS9) ht3).trans ht1; have hc92 := (Below.cell (show Below w5.heap.size w5 w9 from hS9) ht3).trans ht2; go_simp; (try with_reducible rfl))
            simp only [Act.put, List.setIfInBounds_toArray, List.set_cons_zero, List.set_cons_succ]
            refine wpAnyH_ready (rs := [0, 7]) (by kernel_rfl) (by simp) ?_
            refine AllReadyH.cons (o := { dst := some 53, op := Op.buildSlice 24 0 #[], type := 24, pos := "laws.go:294", after := #[], guard := none }) rfl (fun K hK => ?_) (AllReadyH.cons (o := { dst := some 9, op := Op.alloc 26, type := 0, pos := "laws.go:294", after := #[], guard := none }) rfl (fun K hK => ?_) (AllReadyH.nil))
            ·
              go_simp
              have HO0 : Hid (IntSl (wd.alloc (.cells #[] 3)) w5.heap.size (.slice (some ⟨wd.heap.size, 0, none⟩) 0 0) []) := hide (by exact litI wd w5.heap.size (by first | exact hzd | (simp; done) | (simp <;> omega)))
              refine hK.out _ _ (Below.alloc hH0h.out (Below.size hH0h.out) _) (fun hH0 => ?_)
              clear hK K
              try simp only [Act.put, List.setIfInBounds_toArray, List.set_cons_zero, List.set_cons_succ]
              have hH0h := hide (show Below w5.heap.size w5 _ from hH0)
              clear hH0
              refine wpAnyH_ready (rs := [3, 7]) (by kernel_rfl) (by simp) ?_
              refine AllReadyH.cons (o := { dst := some 56, op := Op.call { callee := Callee.builtin Builtin.append, args := #[Operand.tmp 53, Operand.tmp 55], argTypes := #[24, 24] }, type := 24, pos := "laws.go:294", after := #[{ on := 0, ground := Ground.data }, { on := 2, ground := Ground.data }], guard := none }) rfl (fun K hK => ?_) (AllReadyH.cons (o := { dst := some 9, op := Op.alloc 26, type := 0, pos := "laws.go:294", after := #[], guard := none }) rfl (fun K hK => ?_) (AllReadyH.nil))
              ·
                refine step_spread_int (by rfl) _ _ (by rfl) w5.heap.size (.slice (some ⟨wd.heap.size, 0, none⟩) 0 0) [] (by rfl) HO0.out (by simp) ⟨bv, ov, none⟩ rs.length d1 rs rfl (by rfl) (HV5.out.below hH0h.out) hsm (by first | exact hzd | (simp; done) | (simp <;> omega)) ?_
                intro g3 cap3 w3b hown3 hgrow3
                have HS3 : Hid (Below w5.heap.size w5 w3b) := hide (Below.grown hH0h.out hgrow3 (Below.size hH0h.out) (fun k hk => (World.ownsRow.lt HO0.out k hk).1))
                have HO3 : Hid (IntSl w3b w5.heap.size (.slice (some ⟨g3, 0, none⟩) rs.length cap3) rs) := hide (by have h := hown3; rw [List.length_nil, Nat.zero_add] at h; exact h)
                clear hown3 hgrow3
                simp only [List.length_nil, Nat.zero_add]
                refine hK.out _ _ HS3.out (fun hH3 => ?_)
                clear hK K
                try simp only [Act.put, List.setIfInBounds_toArray, List.set_cons_zero, List.set_cons_succ]
                have hH3h := hide (show Below w5.heap.size w5 _ from hH3)
                clear hH3
                refine wpAnyH_take (i := 6) (oi := { dst := some 59, op := Op.build 26 #[(0, Operand.tmp 56), (1, Operand.tmp 58)], type := 26, pos := "laws.go:294", after := #[{ on := 3, ground := Ground.data }, { on := 5, ground := Ground.data }], guard := none }) (v := ?v105) rfl (by kernel_rfl) (by kernel_rfl) (by kernel_rfl) (fun _ _ _ h => h) (Or.inl ⟨by rfl, ?hy105⟩) hH3h.out ?rest105
                case hy105 => (intro w9 hS9; go_simp; (try with_reducible rfl))
                simp only [Act.put, List.setIfInBounds_toArray, List.set_cons_zero, List.set_cons_succ]
                refine wpAnyH_ready (rs := [7]) (by kernel_rfl) (by simp) ?_
                refine AllReadyH.cons (o := { dst := some 9, op := Op.alloc 26, type := 0, pos := "laws.go:294", after := #[], guard := none }) rfl (fun K hK => ?_) (AllReadyH.nil)
                go_simp
                have HO7 := hide (World.ownsRow.alloc HO3.out (.cells #[.slice none 0 0, .slice none 0 0] 26))
                have HX7 : Hid ((w3b.alloc (.cells #[.slice none 0 0, .slice none 0 0] 26)).heap[w3b.heap.size]? = some (.cells #[.slice none 0 0, .slice none 0 0] 26 (0, 0))) := hide (by exact heap_alloc_new w3b _)
                refine hK.out _ _ (Below.alloc hH3h.out (Below.size hH3h.out) _) (fun hH7 => ?_)
                clear hK K
                try simp only [Act.put, List.setIfInBounds_toArray, List.set_cons_zero, List.set_cons_succ]
                have hH7h := hide (show Below w5.heap.size w5 _ from hH7)
                clear hH7
                refine wpAnyH_ready (rs := [8]) (by kernel_rfl) (by simp) ?_
                refine AllReadyH.cons (o := { dst := none, op := Op.store 26 (Operand.tmp 9) (Operand.tmp 59), type := 0, pos := "laws.go:294", after := #[{ on := 7, ground := Ground.data }, { on := 6, ground := Ground.data }, { on := 3, ground := Ground.chain }, { on := 0, ground := Ground.phase }, { on := 1, ground := Ground.phase }, { on := 2, ground := Ground.phase }, { on := 3, ground := Ground.phase }, { on := 4, ground := Ground.phase }, { on := 5, ground := Ground.phase }, { on := 6, ground := Ground.phase }, { on := 7, ground := Ground.phase }], guard := none }) rfl (fun K hK => ?_) (AllReadyH.nil)
                obtain ⟨hb0, hb1, hf0, hf1⟩ := boxFacts HX7.out
                go_simp
                refine hK.out _ _ (by first | exact belowBox hH7h.out HS3.out.size _ _ | exact Below.alloc HS3.out HS3.out.size _) (fun hH8 => ?_)
                clear hK K
                try simp only [Act.put, List.setIfInBounds_toArray, List.set_cons_zero, List.set_cons_succ]
                have hH8h := hide (show Below w5.heap.size w5 _ from hH8)
                clear hH8
                refine wpAnyH_done (by kernel_rfl) ?_ _
                refine NoPanic.normal ?_
                go_wp2_with fail
                go_meet
                refine ⟨_, g3, cap3, rfl, ?_⟩
                exact copyBox_new HO3.out (HD5.out.below HS3.out) (next HB5.out HS3.out) HS3.out.size
              ·
                go_simp
                have HO7 := hide (World.ownsRow.alloc HO0.out (.cells #[.slice none 0 0, .slice none 0 0] 26))
                have HX7 : Hid (((wd.alloc (.cells #[] 3)).alloc (.cells #[.slice none 0 0, .slice none 0 0] 26)).heap[(wd.heap.size + 1)]? = some (.cells #[.slice none 0 0, .slice none 0 0] 26 (0, 0))) := hide (by rw [show wd.heap.size + 1 = (wd.alloc (.cells #[] 3)).heap.size by simp]; exact heap_alloc_new (wd.alloc (.cells #[] 3)) _)
                refine hK.out _ _ (Below.alloc hH0h.out (Below.size hH0h.out) _) (fun hH7 => ?_)
                clear hK K
                try simp only [Act.put, List.setIfInBounds_toArray, List.set_cons_zero, List.set_cons_succ]
                have hH7h := hide (show Below w5.heap.size w5 _ from hH7)
                clear hH7
                refine wpAnyH_ready (rs := [3]) (by kernel_rfl) (by simp) ?_
                refine AllReadyH.cons (o := { dst := some 56, op := Op.call { callee := Callee.builtin Builtin.append, args := #[Operand.tmp 53, Operand.tmp 55], argTypes := #[24, 24] }, type := 24, pos := "laws.go:294", after := #[{ on := 0, ground := Ground.data }, { on := 2, ground := Ground.data }], guard := none }) rfl (fun K hK => ?_) (AllReadyH.nil)
                refine step_spread_int (by rfl) _ _ (by rfl) w5.heap.size (.slice (some ⟨wd.heap.size, 0, none⟩) 0 0) [] (by rfl) HO7.out (by simp) ⟨bv, ov, none⟩ rs.length d1 rs rfl (by rfl) (HV5.out.below hH7h.out) hsm (by first | exact hzd | (simp; done) | (simp <;> omega)) ?_
                intro g3 cap3 w3b hown3 hgrow3
                have HS3 : Hid (Below w5.heap.size w5 w3b) := hide (Below.grown hH7h.out hgrow3 (Below.size hH7h.out) (fun k hk => (World.ownsRow.lt HO7.out k hk).1))
                have HX3 : Hid (w3b.heap[(wd.heap.size + 1)]? = some (.cells #[.slice none 0 0, .slice none 0 0] 26 (0, 0))) := hide ((hgrow3.block _ (by first | (simp; done) | (simp; omega)) (fun e => by have e : some ((wd.heap.size + 1)) = some (wd.heap.size) := e; injection e with e; first | omega | (simp at e))).trans HX7.out)
                have HO3 : Hid (IntSl w3b w5.heap.size (.slice (some ⟨g3, 0, none⟩) rs.length cap3) rs) := hide (by have h := hown3; rw [List.length_nil, Nat.zero_add] at h; exact h)
                clear hown3 hgrow3
                simp only [List.length_nil, Nat.zero_add]
                refine hK.out _ _ HS3.out (fun hH3 => ?_)
                clear hK K
                try simp only [Act.put, List.setIfInBounds_toArray, List.set_cons_zero, List.set_cons_succ]
                have hH3h := hide (show Below w5.heap.size w5 _ from hH3)
                clear hH3
                refine wpAnyH_take (i := 6) (oi := { dst := some 59, op := Op.build 26 #[(0, Operand.tmp 56), (1, Operand.tmp 58)], type := 26, pos := "laws.go:294", after := #[{ on := 3, ground := Ground.data }, { on := 5, ground := Ground.data }], guard := none }) (v := ?v106) rfl (by kernel_rfl) (by kernel_rfl) (by kernel_rfl) (fun _ _ _ h => h) (Or.inl ⟨by rfl, ?hy106⟩) hH3h.out ?rest106
                case hy106 => (intro w9 hS9; go_simp; (try with_reducible rfl))
                simp only [Act.put, List.setIfInBounds_toArray, List.set_cons_zero, List.set_cons_succ]
                refine wpAnyH_ready (rs := [8]) (by kernel_rfl) (by simp) ?_
                refine AllReadyH.cons (o := { dst := none, op := Op.store 26 (Operand.tmp 9) (Operand.tmp 59), type := 0, pos := "laws.go:294", after := #[{ on := 7, ground := Ground.data }, { on := 6, ground := Ground.data }, { on := 3, ground := Ground.chain }, { on := 0, ground := Ground.phase }, { on := 1, ground := Ground.phase }, { on := 2, ground := Ground.phase }, { on := 3, ground := Ground.phase }, { on := 4, ground := Ground.phase }, { on := 5, ground := Ground.phase }, { on := 6, ground := Ground.phase }, { on := 7, ground := Ground.phase }], guard := none }) rfl (fun K hK => ?_) (AllReadyH.nil)
                obtain ⟨hb0, hb1, hf0, hf1⟩ := boxFacts HX3.out
                go_simp
                refine hK.out _ _ (by first | exact belowBox hH3h.out (by omega) _ _ | exact Below.alloc HS3.out HS3.out.size _) (fun hH8 => ?_)
                clear hK K
                try simp only [Act.put, List.setIfInBounds_toArray, List.set_cons_zero, List.set_cons_succ]
                have hH8h := hide (show Below w5.heap.size w5 _ from hH8)
                clear hH8
                refine wpAnyH_done (by kernel_rfl) ?_ _
                refine NoPanic.normal ?_
                go_wp2_with fail
                go_meet
                refine ⟨_, g3, cap3, rfl, ?_⟩
                exact copyBox_set HX3.out HO3.out (HD5.out.below hH3h.out) (next HB5.out hH3h.out) (by omega) HS35.out (.inr (fun e => by have e : some g' = some ((wd.heap.size + 1)) := e; injection e with e; omega))
            ·
              go_simp
              have HX7 : Hid ((wd.alloc (.cells #[.slice none 0 0, .slice none 0 0] 26)).heap[wd.heap.size]? = some (.cells #[.slice none 0 0, .slice none 0 0] 26 (0, 0))) := hide (by exact heap_alloc_new wd _)
              refine hK.out _ _ (Below.alloc hH0h.out (Below.size hH0h.out) _) (fun hH7 => ?_)
              clear hK K
              try simp only [Act.put, List.setIfInBounds_toArray, List.set_cons_zero, List.set_cons_succ]
              have hH7h := hide (show Below w5.heap.size w5 _ from hH7)
              clear hH7
              refine wpAnyH_ready (rs := [0]) (by kernel_rfl) (by simp) ?_
              refine AllReadyH.cons (o := { dst := some 53, op := Op.buildSlice 24 0 #[], type := 24, pos := "laws.go:294", after := #[], guard := none }) rfl (fun K hK => ?_) (AllReadyH.nil)
              go_simp
              have HO0 : Hid (IntSl ((wd.alloc (.cells #[.slice none 0 0, .slice none 0 0] 26)).alloc (.cells #[] 3)) w5.heap.size (.slice (some ⟨(wd.heap.size + 1), 0, none⟩) 0 0) []) := hide (by rw [show wd.heap.size + 1 = (wd.alloc (.cells #[.slice none 0 0, .slice none 0 0] 26)).heap.size by simp]; exact litI (wd.alloc (.cells #[.slice none 0 0, .slice none 0 0] 26)) w5.heap.size (by first | exact hzd | (simp; done) | (simp <;> omega)))
              have HX0 : Hid (((wd.alloc (.cells #[.slice none 0 0, .slice none 0 0] 26)).alloc (.cells #[] 3)).heap[wd.heap.size]? = some (.cells #[.slice none 0 0, .slice none 0 0] 26 (0, 0))) := hide (((World.grownBy_alloc (wd.alloc (.cells #[.slice none 0 0, .slice none 0 0] 26)) _ none).block _ (by simp) (by simp)).trans HX7.out)
              refine hK.out _ _ (Below.alloc hH7h.out (Below.size hH7h.out) _) (fun hH0 => ?_)
              clear hK K
              try simp only [Act.put, List.setIfInBounds_toArray, List.set_cons_zero, List.set_cons_succ]
              have hH0h := hide (show Below w5.heap.size w5 _ from hH0)
              clear hH0
              refine wpAnyH_ready (rs := [3]) (by kernel_rfl) (by simp) ?_
              refine AllReadyH.cons (o := { dst := some 56, op := Op.call { callee := Callee.builtin Builtin.append, args := #[Operand.tmp 53, Operand.tmp 55], argTypes := #[24, 24] }, type := 24, pos := "laws.go:294", after := #[{ on := 0, ground := Ground.data }, { on := 2, ground := Ground.data }], guard := none }) rfl (fun K hK => ?_) (AllReadyH.nil)
              refine step_spread_int (by rfl) _ _ (by rfl) w5.heap.size (.slice (some ⟨(wd.heap.size + 1), 0, none⟩) 0 0) [] (by rfl) HO0.out (by simp) ⟨bv, ov, none⟩ rs.length d1 rs rfl (by rfl) (HV5.out.below hH0h.out) hsm (by first | exact hzd | (simp; done) | (simp <;> omega)) ?_
              intro g3 cap3 w3b hown3 hgrow3
              have HS3 : Hid (Below w5.heap.size w5 w3b) := hide (Below.grown hH0h.out hgrow3 (Below.size hH0h.out) (fun k hk => (World.ownsRow.lt HO0.out k hk).1))
              have HX3 : Hid (w3b.heap[wd.heap.size]? = some (.cells #[.slice none 0 0, .slice none 0 0] 26 (0, 0))) := hide ((hgrow3.block _ (by first | (simp; done) | (simp; omega)) (fun e => by have e : some (wd.heap.size) = some ((wd.heap.size + 1)) := e; injection e with e; first | omega | (simp at e))).trans HX0.out)
              have HO3 : Hid (IntSl w3b w5.heap.size (.slice (some ⟨g3, 0, none⟩) rs.length cap3) rs) := hide (by have h := hown3; rw [List.length_nil, Nat.zero_add] at h; exact h)
              clear hown3 hgrow3
              simp only [List.length_nil, Nat.zero_add]
              refine hK.out _ _ HS3.out (fun hH3 => ?_)
              clear hK K
              try simp only [Act.put, List.setIfInBounds_toArray, List.set_cons_zero, List.set_cons_succ]
              have hH3h := hide (show Below w5.heap.size w5 _ from hH3)
              clear hH3
              refine wpAnyH_take (i := 6) (oi := { dst := some 59, op := Op.build 26 #[(0, Operand.tmp 56), (1, Operand.tmp 58)], type := 26, pos := "laws.go:294", after := #[{ on := 3, ground := Ground.data }, { on := 5, ground := Ground.data }], guard := none }) (v := ?v107) rfl (by kernel_rfl) (by kernel_rfl) (by kernel_rfl) (fun _ _ _ h => h) (Or.inl ⟨by rfl, ?hy107⟩) hH3h.out ?rest107
              case hy107 => (intro w9 hS9; go_simp; (try with_reducible rfl))
              simp only [Act.put, List.setIfInBounds_toArray, List.set_cons_zero, List.set_cons_succ]
              refine wpAnyH_ready (rs := [8]) (by kernel_rfl) (by simp) ?_
              refine AllReadyH.cons (o := { dst := none, op := Op.store 26 (Operand.tmp 9) (Operand.tmp 59), type := 0, pos := "laws.go:294", after := #[{ on := 7, ground := Ground.data }, { on := 6, ground := Ground.data }, { on := 3, ground := Ground.chain }, { on := 0, ground := Ground.phase }, { on := 1, ground := Ground.phase }, { on := 2, ground := Ground.phase }, { on := 3, ground := Ground.phase }, { on := 4, ground := Ground.phase }, { on := 5, ground := Ground.phase }, { on := 6, ground := Ground.phase }, { on := 7, ground := Ground.phase }], guard := none }) rfl (fun K hK => ?_) (AllReadyH.nil)
              obtain ⟨hb0, hb1, hf0, hf1⟩ := boxFacts HX3.out
              go_simp
              refine hK.out _ _ (by first | exact belowBox hH3h.out (by omega) _ _ | exact Below.alloc HS3.out HS3.out.size _) (fun hH8 => ?_)
              clear hK K
              try simp only [Act.put, List.setIfInBounds_toArray, List.set_cons_zero, List.set_cons_succ]
              have hH8h := hide (show Below w5.heap.size w5 _ from hH8)
              clear hH8
              refine wpAnyH_done (by kernel_rfl) ?_ _
              refine NoPanic.normal ?_
              go_wp2_with fail
              go_meet
              refine ⟨_, g3, cap3, rfl, ?_⟩
              exact copyBox_set HX3.out HO3.out (HD5.out.below hH3h.out) (next HB5.out hH3h.out) (by omega) HS35.out (.inr (fun e => by have e : some g' = some (wd.heap.size) := e; injection e with e; omega))
          case rest =>
            obtain ⟨X, gN, cN, rfl, hCB⟩ := hcut
            obtain ⟨⟨hx1, hx2, hx3⟩, hN, hDD, hBc, hXN, hX5⟩ := hCB
            have HN := hide hN
            have HDC := hide hDD
            have HBC := hide hBc
            clear H1 H2 H3 H1d H2d H3d H1b H2b H3b H2x H3x hN hDD hBc ht1 ht2 ht3
            have hc9 := IntSl.cellAt HN.out HRE.out
            have hf9 := IntSl.frozenAt HN.out k
            have hrp : r + 1 ≤ 9999999 := by omega
            have hw1 : IntKind.i64.wrap (r + 1) = r + 1 := IntWalk.i64_in _ (by omega)
            have hgN := (World.ownsRow.lt HN.out gN rfl)
            have hgN1 := hgN.1
            have HN2 : Hid (IntSl (wc.setCell ⟨gN, k, none⟩ (.int .i64 (r + 1))).drew w5.heap.size (.slice (some ⟨gN, 0, none⟩) rs.length cN) (rs.set k (r + 1))) := hide (IntSl.store HN.out k (r + 1))
            have hG2 := IntSl.grownSet HN.out k (r + 1)
            have hy1 : (wc.setCell ⟨gN, k, none⟩ (.int .i64 (r + 1))).drew.cell? ⟨X, 0, none⟩ = some (.slice (some ⟨gN, 0, none⟩) rs.length cN) := (World.cell?_of_block (hG2.block X hx3 (fun e => hXN (by injection e)))).trans hx1
            have hy2 : (wc.setCell ⟨gN, k, none⟩ (.int .i64 (r + 1))).drew.cell? ⟨X, 1, none⟩ = some (.slice U1 lf.length e1) := (World.cell?_of_block (hG2.block X hx3 (fun e => hXN (by injection e)))).trans hx2
            have HD2 : Hid (IntSl (wc.setCell ⟨gN, k, none⟩ (.int .i64 (r + 1))).drew w3.heap.size (.slice (some ⟨g', 0, none⟩) (dl.length + 1) cap) (dl ++ [2 * p])) := hide (IntSl.drew (HDC.out.row hG2 (.inr (fun e => by have e : some g' = some gN := e; injection e with e; omega))))
            have HB2 : Hid (Below w3.heap.size w3 (wc.setCell ⟨gN, k, none⟩ (.int .i64 (r + 1))).drew) := hide (HBC.out.grown hG2 HBC.out.size (fun j hj => by injection hj with hj; omega)).drew
            clear hG2 hgN
            obtain ⟨yl, HYL⟩ : ∃ yl, Hid (it.yield = yl) := ⟨_, hide rfl⟩
            rw [HYL.out] at hi1 hyl
            obtain ⟨y, HY⟩ : ∃ y, Hid (x + (if yl = 0 then p else 0) = y) := ⟨_, hide rfl⟩
            have HCY : Hid (costL l ps (rs.set k (r + 1)) = y) := hide (by
              have := HMORE.out k hkl (by rw [HRK.out]; exact hrp)
              rwa [HRK.out, HPK.out, HYI.out, HYL.out, HY.out] at this)
            go_wp2_with fail
            refine still_tail_drew 10 (by kernel_rfl) (by kernel_rfl) ?_
            simp only [List.take_succ_cons, List.take_zero, List.drop_succ_cons, List.drop_zero]
            repeat still_step
            refine wpStill_nil ?_
            go_wp2_with fail
            clear hc9 hf9 hx1 hx2 hx3
            generalize (wc.setCell ⟨gN, k, none⟩ (.int .i64 (r + 1))).drew = w10 at *
            have HC2 : Hid (Calls Tryd.prog 13 #[.slice (some ⟨bl, offl, none⟩) l.length c1, .slice (some ⟨g2, 0, none⟩) ps.length c2, .agg #[.slice (some ⟨gN, 0, none⟩) rs.length cN, .slice U1 lf.length e1]] w10 fun e w' => e = .returned (.int .i64 y) ∧ Below w10.heap.size w10 w') := hide (by
              have := implPlanCost_any _ _ _ U1 c1 c2 cN e1 l ps (rs.set k (r + 1)) lf w10 (HI3.out.below HB2.out) hl' HP.out (HX3.out.below HB2.out) hx' (IntSl.ints HN2.out) (by rw [List.length_set]; exact hv')
              rwa [List.length_set, HCY.out] at this)
            refine HC2.out.mono ?_
            rintro e w11 ⟨rfl, hB11⟩
            have HB11 := hide (next HB2.out hB11)
            have HD11 := hide (HD2.out.below hB11)
            have hcy := (HB11.out.cell hbl).trans hi1
            have hcp := (HB11.out.cell hbp).trans hp1
            rw [Nat.zero_add] at hcp
            have HDN : Hid ((dl ++ [2 * p]).length = dl.length + 1 ∧ dl ++ [2 * p] = (ps.take (k + 1)).map (fun p => 2 * p)) := hide ⟨by simp, by rw [HTK.out, ← HDL.out.2]⟩
            have hdk : dl.length + 1 ≤ k + 1 := by have := HDL.out.1; omega
            clear hB11 hy1 hy2
            by_cases hy0 : yl = 0
            · have hye : y = x + p := by rw [← HY.out, if_pos hy0]
              subst hy0
              subst hye
              have hwp : IntKind.i64.wrap (x + p) = x + p := IntWalk.i64_in _ (by omega)
              have hne : (x + p != x + p) = false := by simp
              go_wp2_with fail
              go_roundw
              case rel => exact ⟨k + 1, dl.length + 1, g', cap, dl ++ [2 * p], hlt, by go_num, hdk, rfl, HDN, HD11.out, HB11.out⟩
              case measure => simp [intOf]; omega
            · have hye : y = x := by rw [← HY.out, if_neg hy0]; omega
              subst hye
              have hyb : (yl == 0) = false := by simpa using hy0
              have hyp : (0 : Int) < yl := by omega
              have hne : (y != y) = false := by simp
              go_wp2_with fail
              go_roundw
              case rel => exact ⟨k + 1, dl.length + 1, g', cap, dl ++ [2 * p], hlt, by go_num, hdk, rfl, HDN, HD11.out, HB11.out⟩
              case measure => simp [intOf]; omega
        · obtain rfl : k = ps.length := by omega
          obtain ⟨z, HZ⟩ : ∃ z, Hid (costL l (ps.map (fun p => 2 * p)) rs = z) := ⟨_, hide rfl⟩
          have hz : z = -1 ∨ z = 2 * x := by have := HDBL.out; rwa [HZ.out] at this
          have HDM : Hid (dl = ps.map (fun p => 2 * p)) := hide (by have := HDL.out.2; rwa [List.take_length] at this)
          have HC3 : Hid (Calls Tryd.prog 13 #[.slice A1 l.length c1, .slice (some ⟨gD, 0, none⟩) L cD, .agg #[.slice V1 rs.length d1, .slice U1 lf.length e1]] wr fun e w' => e = .returned (.int .i64 z) ∧ Below wr.heap.size wr w') := hide (by
            have := implPlanCost_any _ _ _ U1 c1 cD d1 e1 l dl rs lf wr (HI3.out.below HBW.out) hl' HP.out (IntSl.ints HD.out) (by omega) (HV3.out.below HBW.out) hv'
            rwa [HDL.out.1, HDM.out, HZ.out] at this)
          have hb4 := next hb3 HBW.out
          go_wp2_with fail
          refine HC3.out.mono ?_
          rintro e w5 ⟨rfl, hB5⟩
          rcases hz with rfl | rfl
          · go_wp2_with fail
            go_ret
            exact ⟨rfl, next hb4 hB5⟩
          · have hw2x : IntKind.i64.wrap (2 * x) = 2 * x := IntWalk.i64_in _ (by omega)
            have hnx : ¬ 2 * x < 0 := by omega
            have hee : (2 * x == 2 * x) = true := by simp
            go_wp2_with fail
            go_ret
            exact ⟨rfl, next hb4 hB5⟩
end Go.Proofs.YtgagfaajilbmmaaDoor
