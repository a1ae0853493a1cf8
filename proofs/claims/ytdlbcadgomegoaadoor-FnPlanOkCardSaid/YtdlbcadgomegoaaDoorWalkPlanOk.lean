/- For all drawn bytes the law of PlanOk answers true, and its argument reads as it did.
   Conditions: none. -/
import Derived.Test.YtdlbcadgomegoaaDoorLawKit
import Derived.Test.YtdlbcadgomegoaaDoorDrawPlan
import Derived.Test.YtdlbcadgomegoaaDoorOk2
namespace Go.Proofs.YtdlbcadgomegoaaDoor
open Go.RowKit Go.ChangeShapes Go.WideShapes Go.ChangeAt Go.Deep

/-- Stores into a box that lies below what is owned. -/
structure Boxed (R lo : Nat) (W W' : World) : Prop where
  os : W'.os = W.os
  tape : W'.tape = W.tape
  output : W'.output = W.output
  size : W'.heap.size = W.heap.size
  keep : ∀ k, k ≠ R → W'.heap[k]? = W.heap[k]?
  box : ∃ c, W.heap[R]? = some (.cells c 35 (0, 0))
  low : R < lo
theorem boxed2 {W : World} {R lo : Nat} {u v : Value} {c : Array Value} (h : W.heap[R]? = some (.cells c 35 (0, 0))) (hl : R < lo) : Boxed R lo W ((W.setCell ⟨R, 0, none⟩ u).setCell ⟨R, 1, none⟩ v) :=
  ⟨rfl, rfl, rfl, by simp, fun k hk => by rw [heap_setCell_other _ ⟨R, 1, none⟩ k _ hk, heap_setCell_other _ ⟨R, 0, none⟩ k _ hk], ⟨c, h⟩, hl⟩
theorem Boxed.grown {W W' : World} {R lo : Nat} (h : Boxed R lo W W') : W.grownBy W' (some R) := ⟨h.os, h.tape, h.output, Nat.le_of_eq h.size.symm, fun k _ hk => h.keep k (fun e => hk (by rw [e]))⟩
theorem Boxed.ints {W W' : World} {R lo : Nat} {v : Value} {xs : List Int} (h : Boxed R lo W W') (hs : IntSl W lo v xs) : IntSl W' lo v xs := hs.row h.grown (by
  cases e : v.ownBlock with
  | none => exact .inl rfl
  | some k => exact .inr (fun e' => by injection e' with e'; have := (World.ownsRow.lt hs k e).1; have := h.low; omega))
theorem Boxed.items {W W' : World} {R lo : Nat} {v : Value} {l : List Item} (h : Boxed R lo W W') (hs : ItemSl W lo v l) : ItemSl W' lo v l := by
  have ho := hs
  obtain ⟨cs, ho, _⟩ := ho
  obtain ⟨c, hc⟩ := h.box
  exact hs.kept (Nat.le_of_eq h.size.symm) (fun k hk => h.keep k (by have := (ho.lt k hk).1; have := h.low; omega)) (fun A ht => ht.far hc (by decide) h.grown)
theorem ItemSl.at_ {w : World} {lo c n : Nat} {A : Option Addr} {l : List Item} (h : ItemSl w lo (.slice A n c) l) : ItemsAt w A l := by
  obtain ⟨A3, c3, e, hI⟩ := h.form
  injection e with e
  rw [e]; exact hI

def DrawnPO (w : World) (e : Ending) (w' : World) : Prop :=
  ∃ (l : List Item) (A : Option Addr) (c : Nat) (want stock rs lf : List Int) (g1 c1 g2 c2 d e2 : Nat) (V U : Option Addr),
    e = .returned (.tuple #[.slice A l.length c, .slice (some ⟨g1, 0, none⟩) want.length c1, .slice (some ⟨g2, 0, none⟩) stock.length c2, .agg #[.slice V rs.length d, .slice U lf.length e2]]) ∧
    ItemsAt w' A l ∧ l.length ≤ 7 ∧ (∀ x ∈ l, x.parts.length ≤ 5) ∧ IntsAt w' (some ⟨g1, 0, none⟩) want ∧ want.length ≤ 8 ∧ IntsAt w' (some ⟨g2, 0, none⟩) stock ∧ stock.length ≤ 8 ∧ IntsAt w' V rs ∧ rs.length ≤ 8 ∧ IntsAt w' U lf ∧ lf.length ≤ 9 ∧ Below w.heap.size w w'

set_option maxRecDepth 100000 in
set_option maxHeartbeats 1000000 in
theorem drawPlanOk_any (A : Option Addr) (c m : Nat) (w : World) (hB : BytesIn w A m) (hm : m ≤ 9223372036854775807) (hc : m ≤ c) (hc2 : c ≤ 9223372036854775807) :
    Calls Tryd.prog 13 #[.slice A m c] w (DrawnPO w) := by
  have HBa : Hid (BytesIn (w.alloc (.cells #[.slice none 0 0, .slice none 0 0] 35)) A m) := hide (fun i hi => by
    obtain ⟨ab, off, v, e, hlt, h5, h6, h7⟩ := hB i hi
    exact ⟨ab, off, v, e, by simp; omega, h5, h6, (World.cell?_of_block (heap_alloc_old w _ hlt)).trans h7⟩)
  clear hB
  go_enter Tryd.func13, Tryd.ntmps13
  go_wp2_with fail
  refine (open_any A c m _ HBa.out hm hc hc2).mono ?_
  rintro e w1 ⟨rfl, hR1, hb1⟩
  have hz1 := hb1.size
  simp only [World.size_alloc] at hz1 hR1 hb1
  have HB1 := hide hb1
  have hbR1 : w1.heap[w.heap.size]? = some (.cells #[.slice none 0 0, .slice none 0 0] 35 (0, 0)) := (hb1.block w.heap.size (by omega)).trans (heap_alloc_new w _)
  have HBR1 := hide hbR1
  have hb1l := hR1.lt
  clear hbR1 hb1
  simp only [World.size_alloc]
  go_wp2_with fail
  refine (l20Plan_any (w.heap.size + 1) 0 _ hR1 (by omega)).mono ?_
  rintro e w2 ⟨l, A2, c2, want, stock, rs, lf, g1, d1, g2, d2, d, e2, V, U, rfl, hI, hl, hp, hW, hwl, hS, hsl, hV, hrl, hU, hll, -, -, hg2⟩
  have hbR2 : w2.heap[w.heap.size]? = some (.cells #[.slice none 0 0, .slice none 0 0] 35 (0, 0)) := (hg2.block _ (heap_ltP HBR1.out) (fun e => by injection e with e; omega)).trans HBR1.out
  have hbx : Boxed w.heap.size w1.heap.size w2 ((w2.setCell ⟨w.heap.size, 0, none⟩ (.slice V rs.length d)).setCell ⟨w.heap.size, 1, none⟩ (.slice U lf.length e2)) := boxed2 hbR2 (heap_ltP HBR1.out)
  have HE := hide (And.intro (hbx.items hI).at_ (And.intro (IntSl.ints (hbx.ints hW)) (And.intro (IntSl.ints (hbx.ints hS)) (And.intro (IntSl.ints (hbx.ints hV)) (IntSl.ints (hbx.ints hU))))))
  have hb2 : Below w.heap.size w w2 := (Below.alloc (Below.refl _ _) (Nat.le_refl _) _ |>.trans (HB1.out.mono (by omega))).grown hg2 (by omega) (fun j hj => by injection hj with hj; omega)
  have HP := hide hp
  have hbk2 : ((w2.setCell ⟨w.heap.size, 0, none⟩ (.slice V rs.length d)).setCell ⟨w.heap.size, 1, none⟩ (.slice U lf.length e2)).rowIs w.heap.size 35 2 (fun j => if j = 0 then .slice V rs.length d else .slice U lf.length e2) := by
    have h0 : w2.rowIs w.heap.size 35 2 (fun _ => .slice none 0 0) := ⟨_, hbR2, rfl, fun i hi => by rcases (by omega : i = 0 ∨ i = 1) with rfl | rfl <;> rfl⟩
    exact ((h0.set 0 _).set 1 _).congr (fun i hi => by rcases (by omega : i = 0 ∨ i = 1) with rfl | rfl <;> rfl)
  have f0 := hbk2.cell (i := 0) (by omega)
  have f1 := hbk2.cell (i := 1) (by omega)
  rw [if_pos rfl] at f0
  rw [if_neg (by omega)] at f1
  have HF := hide (And.intro f0 f1)
  have hf0 := frozen_of_row w2 w.heap.size 0 _ _ hbR2
  have hf1 := frozen_of_row w2 w.heap.size 1 _ _ hbR2
  have hg0 : w2.cell? ⟨w.heap.size, 0, none⟩ = some (.slice none 0 0) := by rw [cell_of_row w2 _ 0 _ _ _ hbR2]; rfl
  have hg1 : w2.cell? ⟨w.heap.size, 1, none⟩ = some (.slice none 0 0) := by rw [cell_of_row w2 _ 1 _ _ _ hbR2]; rfl
  clear hI hp hW hS hV hU hg2 hbR2 hbx hbk2 f0 f1
  go_wp2_with fail
  obtain ⟨f0, f1⟩ := HF.out
  refine bodyPost_ret (v := .tuple #[.slice A2 l.length c2, .slice (some ⟨g1, 0, none⟩) want.length d1, .slice (some ⟨g2, 0, none⟩) stock.length d2, .agg #[.slice V rs.length d, .slice U lf.length e2]]) (by simp [results, Tryd.results13, go_sem, f0, f1]) rfl ⟨l, A2, c2, want, stock, rs, lf, g1, d1, g2, d2, d, e2, V, U, rfl, HE.out.1, hl, HP.out, HE.out.2.1, hwl, HE.out.2.2.1, hsl, HE.out.2.2.2.1, hrl, HE.out.2.2.2.2, hll, by go_grown⟩

set_option maxRecDepth 100000 in
set_option maxHeartbeats 4000000 in
theorem lawPlanOk_any (A : Option Addr) (c m : Nat) (w : World) (hB : BytesIn w A m) (hc : m ≤ c) (hc2 : c ≤ 9223372036854775807) :
    Calls Tryd.prog 4 #[.slice A m c] w fun e w' => e = .returned (.bool true) ∧ Below w.heap.size w w' := by
  by_cases hlen : (1048576 : Int) < m
  · go_enter Tryd.func4, Tryd.ntmps4
    go_wp2_with fail
    go_ret
    exact ⟨rfl, by go_grown⟩
  · go_enter Tryd.func4, Tryd.ntmps4
    go_wp2_with fail
    refine (drawPlanOk_any A c m w hB (by omega) hc hc2).mono ?_
    rintro e w1 ⟨l, A1, c1, want, stock, rs, lf, gx, c2, gy, c3, d1, e1, V1, U1, rfl, hI, hl, hp, hX, hxl, hY, hyl, hV, hvl, hU, hul, hb1⟩
    have hl' : l.length ≤ 1048576 := by omega
    have hx' : want.length ≤ 1048576 := by omega
    have hy' : stock.length ≤ 1048576 := by omega
    have hv' : rs.length ≤ 1048576 := by omega
    have hu' : lf.length ≤ 1048576 := by omega
    have HP : Hid (∀ x ∈ l, x.parts.length ≤ 1048576) := hide (fun x hx => by have := hp x hx; omega)
    have hBa : Below w1.heap.size w1 (w1.alloc (.cells #[.slice V1 rs.length d1, .slice U1 lf.length e1] 35)) := (Below.refl _ _).alloc (Nat.le_refl _) _
    have hb1a := next hb1 hBa
    have HI1 := hide (hI.below hBa)
    have HX1 := hide (hX.below hBa)
    have HY1 := hide (hY.below hBa)
    have HV1 := hide (hV.below hBa)
    have HU1 := hide (hU.below hBa)
    obtain ⟨v, HV⟩ : ∃ v, Hid (planOkL l want stock rs lf = v) := ⟨_, hide rfl⟩
    have hbb : (v != v) = false := by simp
    clear hp hI hX hY hV hU hBa
    go_wp2_with fail
    refine (implPlanOk_any _ _ _ _ _ _ _ _ _ _ _ _ _ _ _ _ HI1.out hl' HP.out HX1.out hx' HY1.out hy' HV1.out hv' HU1.out hu').mono ?_
    rintro e w2 ⟨rfl, hB2⟩
    rw [HV.out]
    have hb2 := next hb1a hB2
    have HK2 : Hid (w2.cell? ⟨w1.heap.size, 0, none⟩ = some (.slice V1 rs.length d1) ∧ w2.cell? ⟨w1.heap.size, 1, none⟩ = some (.slice U1 lf.length e1) ∧ w1.heap.size < w2.heap.size) := hide (keepBox (by simp) hB2 (by simp))
    have HI2 := hide (HI1.out.below hB2)
    have HX2 := hide (HX1.out.below hB2)
    have HY2 := hide (HY1.out.below hB2)
    have HV2 := hide (HV1.out.below hB2)
    have HU2 := hide (HU1.out.below hB2)
    obtain ⟨hk1, hk2, hk3⟩ := HK2.out
    clear hB2 HI1 HX1 HY1 HV1 HU1
    go_wp2_with fail
    refine (specPlanOk_any _ _ _ _ _ _ _ _ _ _ _ _ _ _ _ _ HI2.out hl' HP.out HX2.out hx' HY2.out hy' HV2.out hv' HU2.out hu').mono ?_
    rintro e w3 ⟨rfl, hB3⟩
    rw [HV.out]
    have hb3 := next hb2 hB3
    have HK3 := hide (keepBox HK2.out hB3 HK2.out.2.2)
    have HI3 := hide (HI2.out.below hB3)
    have HX3 := hide (HX2.out.below hB3)
    have HY3 := hide (HY2.out.below hB3)
    have HV3 := hide (HV2.out.below hB3)
    have HU3 := hide (HU2.out.below hB3)
    clear hB3 HI2 HX2 HY2 HV2 HU2 HK2 hk1 hk2 hk3
    cases v with
    | false =>
      go_wp2_with fail
      refine (alive_any _).mono ?_
      rintro e w5 ⟨rfl, hB5⟩
      go_wp2_with fail
      go_ret
      exact ⟨rfl, next hb3 hB5⟩
    | true =>
      obtain ⟨hAm, hRo, hLf, hLl⟩ := planOk_parts HV.out
      have HAM := hide hAm
      have HLE : Hid (∀ k, k < l.length → (lstL l want stock).getD k 0 ≤ rs.getD k 0 ∧ 0 ≤ lf.getD k 0) := hide (fun k hk => ⟨least_le HV.out l.length 0 (by omega) k (Nat.zero_le _) hk, by rw [(hLl k hk).2]; exact (hLl k hk).1⟩)
      have HRL := hide (runsOk_at hRo).1
      have HRE : Hid ((lstL l want stock).length = rs.length) := hide (by rw [lstL_len, (runsOk_at hRo).1])
      have hr1 : rs.length ≤ l.length := Nat.le_of_eq (runsOk_at hRo).1
      have hl1 : rs.length ≤ lf.length := by rw [hLf]; exact hr1
      clear hRo hLf hLl hAm
      obtain ⟨hk1, hk2, hk3⟩ := HK3.out
      go_wp2_with fail
      refine (implPlanLeast_any _ _ _ _ _ _ _ _ _ _ HI3.out hl' HP.out HX3.out hx' HY3.out hy').mono ?_
      rintro e w4 ⟨v, u, rfl, hVL, hUL, -, hB4⟩
      rw [HAM.out]
      unfold planRunsL at hVL
      unfold planLeftL at hUL
      rw [HAM.out, if_pos rfl] at hVL hUL
      obtain ⟨ls, HLS⟩ : ∃ ls, Hid (lstL l want stock = ls) := ⟨_, hide rfl⟩
      obtain ⟨ll, HLL⟩ : ∃ ll, Hid (leastLeft l want stock = ll) := ⟨_, hide rfl⟩
      rw [HLS.out] at hVL HLE HRE
      rw [HLL.out] at hUL
      obtain ⟨V2, d2, rfl, hVI2, -⟩ := hVL.form
      obtain ⟨U2, e2, rfl, hUI2, -⟩ := hUL.form
      have hne : ((ls.length : Int) != (rs.length : Int)) = false := by rw [HRE.out]; simp
      have hlr : rs.length ≤ ls.length := Nat.le_of_eq HRE.out.symm
      have hb4 := next hb3 hB4
      have HK4 := hide (keepBox HK3.out hB4 HK3.out.2.2)
      have hBb : Below w4.heap.size w4 (w4.alloc (.cells #[.slice V2 ls.length d2, .slice U2 ll.length e2] 35)) := (Below.refl _ _).alloc (Nat.le_refl _) _
      obtain ⟨w5, hw5⟩ : ∃ w5, w4.alloc (.cells #[.slice V2 ls.length d2, .slice U2 ll.length e2] 35) = w5 := ⟨_, rfl⟩
      have HK5 : Hid (w5.cell? ⟨w1.heap.size, 0, none⟩ = some (.slice V1 rs.length d1) ∧ w5.cell? ⟨w1.heap.size, 1, none⟩ = some (.slice U1 lf.length e1) ∧ w1.heap.size < w5.heap.size) := hide (by rw [← hw5]; exact keepBox HK4.out hBb HK4.out.2.2)
      have HL5 : Hid (w5.cell? ⟨w4.heap.size, 0, none⟩ = some (.slice V2 ls.length d2) ∧ w5.cell? ⟨w4.heap.size, 1, none⟩ = some (.slice U2 ll.length e2) ∧ w4.heap.size < w5.heap.size) := hide (by rw [← hw5]; exact ⟨by simp, by simp, by simp⟩)
      have HVR := hide (hVI2.below hBb)
      have HV5 := hide ((HV3.out.below hB4).below hBb)
      have HU5 := hide ((HU3.out.below hB4).below hBb)
      have hb5 := next hb4 hBb
      rw [hw5] at HVR HV5 HU5 hb5
      obtain ⟨hm1, hm2, hm3⟩ := HK5.out
      obtain ⟨hn1, hn2, hn3⟩ := HL5.out
      clear hVL hUL hVI2 hUI2 hB4 hBb HI3 HX3 HY3 HV3 HU3 HK3 HK4 hk1 hk2 hk3 hb4
      go_wp2_with fail
      clear hm1 hm2 hm3 hn1 hn2 hn3
      go_loopw [10] (fun i wr => ∃ k : Nat, k ≤ rs.length ∧ i = .int .i64 k ∧ Below w5.heap.size w5 wr) (fun i _ => rs.length - (intOf i).toNat)
      case atStart => exact ⟨0, Nat.zero_le _, rfl, Below.refl _ _⟩
      case round =>
        obtain ⟨k, hk, rfl, hbw⟩ := hrel
        have hbr := next hb5 hbw
        obtain ⟨hx0, hx1, hx2⟩ := keepBox HK5.out hbw HK5.out.2.2
        obtain ⟨hy0, hy1, hy2⟩ := keepBox HL5.out hbw HL5.out.2.2
        by_cases hlt : k < rs.length
        · obtain ⟨b4, off4, rfl, hbl4, hr4⟩ := (HVR.out.below hbw) k (ls[k]'(by omega)) (List.getElem?_eq_getElem (by omega))
          obtain ⟨b5, off5, rfl, hbl5, hr5⟩ := (HV5.out.below hbw) k (rs[k]'hlt) (List.getElem?_eq_getElem hlt)
          obtain ⟨b6, off6, rfl, hbl6, hr6⟩ := (HU5.out.below hbw) k (lf[k]'(by omega)) (List.getElem?_eq_getElem (by omega))
          have HX1b : Hid (ls.getD k 0 = ls[k]'(by omega)) := hide (by simp [show k < ls.length by omega])
          have HX2b : Hid (rs.getD k 0 = rs[k]'hlt) := hide (by simp [hlt])
          have HX3b : Hid (lf.getD k 0 = lf[k]'(by omega)) := hide (by simp [show k < lf.length by omega])
          generalize (ls[k]'(by omega)) = x at *
          generalize (rs[k]'hlt) = r at *
          generalize (lf[k]'(by omega)) = f at *
          have hfk := HLE.out k (by omega)
          rw [HX1b.out, HX2b.out, HX3b.out] at hfk
          have hxr : ¬ r < x := by omega
          have hf0 : ¬ f < 0 := by omega
          have hd : decide (r < x) = false := decide_eq_false hxr
          have hd2 : decide (f < 0) = false := decide_eq_false hf0
          have hz : (0 : Int) ≤ k := by omega
          have hz2 : (k : Int) < rs.length := by omega
          have hz3 : (k : Int) < ls.length := by omega
          have hz4 : (k : Int) < lf.length := by omega
          have HB := hide hbw
          clear hbw hfk
          go_wp2_with fail
          go_quiet (fail)
          go_wp2_with fail
          go_roundw
          case rel => exact ⟨k + 1, hlt, by go_num, below_drewN HB.out _⟩
          case measure => simp [intOf]; omega
        · go_wp2_with fail
          go_ret
          exact ⟨rfl, hbr⟩
end Go.Proofs.YtdlbcadgomegoaaDoor
