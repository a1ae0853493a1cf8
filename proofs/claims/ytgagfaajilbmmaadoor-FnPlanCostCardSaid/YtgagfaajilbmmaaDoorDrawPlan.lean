/- Contract of the draw of items, amounts and a plan that is often right.
   Conditions: the bounds in each statement. -/
import Derived.Test.YtgagfaajilbmmaaDoorDrawAmounts
import Derived.Test.YtgagfaajilbmmaaDoorDraw4
import Derived.Test.YtgagfaajilbmmaaDoorPlanLst2
import Derived.Test.YtgagfaajilbmmaaDoorZeros
namespace Go.Proofs.YtgagfaajilbmmaaDoor
open Go.RowKit Go.ChangeShapes Go.WideShapes Go.ChangeAt Go.Deep

theorem lstL_small {l : List Item} {want stock : List Int} (h : amountsOk l want stock = true) : ∀ x ∈ lstL l want stock, 0 ≤ x ∧ x ≤ 9999999 - 100 := by
  obtain ⟨h1, -, -⟩ := amountsOk_at h
  have hl := itemsOk_len h1
  have hs : ∀ d i, i + d = 6 → sumFrom (lstL l want stock) i l.length ≤ (match d with | 0 => 0 | 1 => 50 | 2 => 400 | 3 => 2850 | 4 => 20000 | 5 => 140050 | _ => 980400) ∧ 0 ≤ sumFrom (lstL l want stock) i l.length := by
    intro d
    induction d with
    | zero => intro i hi; rw [sumFrom_last _ (by omega)]; simp
    | succ d ih =>
      intro i hi
      have a := ih (i + 1) (by omega)
      by_cases hil : i < l.length
      · have b := (least_sum h hil).2
        have c := sumFrom_first (rs := lstL l want stock) l.length hil
        have p := lstL_pos (want := want) (stock := stock) h1 i
        have hd : d = 0 ∨ d = 1 ∨ d = 2 ∨ d = 3 ∨ d = 4 ∨ d = 5 := by omega
        rcases hd with rfl | rfl | rfl | rfl | rfl | rfl <;> simp at a ⊢ <;> omega
      · rw [sumFrom_last _ (by omega)]
        have hd : d = 0 ∨ d = 1 ∨ d = 2 ∨ d = 3 ∨ d = 4 ∨ d = 5 := by omega
        rcases hd with rfl | rfl | rfl | rfl | rfl | rfl <;> simp
  intro x hx
  obtain ⟨i, hi⟩ := List.mem_iff_getElem?.1 hx
  have hil : i < l.length := by have := (List.getElem?_eq_some_iff.1 hi).1; rwa [lstL_len] at this
  have e : (lstL l want stock).getD i 0 = x := by rw [List.getD_eq_getElem?_getD, hi]; rfl
  rw [← e]
  refine ⟨lstL_pos h1 i, ?_⟩
  have a := (least_sum h hil).1
  have b := hs (6 - (i + 1)) (i + 1) (by omega)
  have hd : i = 0 ∨ i = 1 ∨ i = 2 ∨ i = 3 ∨ i = 4 ∨ i = 5 := by omega
  rcases hd with rfl | rfl | rfl | rfl | rfl | rfl <;> simp at a b ⊢ <;> omega

theorem mul_four {a c : Int} (h0 : 0 ≤ a) (h1 : a ≤ 4) (k0 : 0 ≤ c) (k1 : c ≤ 2) : 0 ≤ a * c ∧ a * c ≤ 8 :=
  ⟨Int.mul_nonneg h0 k0, Int.le_trans (Int.mul_le_mul h1 k1 k0 (by omega)) (by omega)⟩
theorem range_of {B : Int} {xs : List Int} (h : ∀ x ∈ xs, 0 ≤ x ∧ x ≤ B) : rangeOk B xs = true := by
  unfold rangeOk
  rw [List.all_eq_true]
  intro x hx
  exact inR_iff.2 (h x hx)
theorem rng_up {B C : Int} {xs : List Int} (h : ∀ x ∈ xs, 0 ≤ x ∧ x ≤ B) (hBC : B ≤ C) : ∀ x ∈ xs, 0 ≤ x ∧ x ≤ C := fun x hx => ⟨(h x hx).1, Int.le_trans (h x hx).2 hBC⟩
theorem rng_set0 {B v : Int} {l : List Int} {k : Nat} (h : ∀ x ∈ l, 0 ≤ x ∧ x ≤ B) (h0 : 0 ≤ v) (h1 : v ≤ B) : ∀ x ∈ l.set k v, 0 ≤ x ∧ x ≤ B := fun x hx => by
  rcases List.mem_or_eq_of_mem_set hx with hx | rfl
  · exact h x hx
  · exact ⟨h0, h1⟩

/-- A plan that is being drawn: its box in block X, its two rows, the reader in block b. -/
structure PS (w3 : World) (X : Nat) (v u : Value) (rs lf : List Int) (b n : Nat) (wr : World) : Prop where
  gr : w3.grownBy wr (some b)
  rd : Rd wr b n
  bl : b < w3.heap.size
  box : wr.rowIs X 26 2 (fun j => if j = 0 then v else u)
  rr : IntSl wr w3.heap.size v rs
  ll : IntSl wr w3.heap.size u lf
  xl : w3.heap.size ≤ X
  vx : ∀ k, v.ownBlock = some k → k ≠ X
  ux : ∀ k, u.ownBlock = some k → k ≠ X
  vu : u.ownBlock = none ∨ u.ownBlock ≠ v.ownBlock

section
variable {w3 wr W w' : World} {X b n : Nat} {v u u' : Value} {rs lf lf' : List Int}
theorem PS.drew (h : PS w3 X v u rs lf b n wr) : PS w3 X v u rs lf b n wr.drew :=
  ⟨⟨h.gr.os, h.gr.tape, h.gr.output, h.gr.size, h.gr.block⟩, h.rd.kept (fun _ _ => rfl), h.bl, h.box, h.rr, h.ll, h.xl, h.vx, h.ux, h.vu⟩
theorem PS.mono {m : Nat} (h : PS w3 X v u rs lf b n wr) (hm : n ≤ m) : PS w3 X v u rs lf b m wr := ⟨h.gr, h.rd.mono hm, h.bl, h.box, h.rr, h.ll, h.xl, h.vx, h.ux, h.vu⟩
theorem PS.pick {m : Nat} (h : PS w3 X v u rs lf b n wr) (hg : wr.grownBy w' (some b)) (hR : Rd w' b m) : PS w3 X v u rs lf b m w' :=
  ⟨h.gr.trans hg, hR, h.bl, h.box.of_block (hg.block X h.box.lt (fun e => by injection e with e; have := h.xl; have := h.bl; omega)), row_pickI h.rr h.bl hg, row_pickI h.ll h.bl hg, h.xl, h.vx, h.ux, h.vu⟩
theorem PS.below (h : PS w3 X v u rs lf b n wr) (hb : Below wr.heap.size wr W) : PS w3 X v u rs lf b n W :=
  ⟨grown_belowI h.gr hb, rd_belowI h.rd hb, h.bl, h.box.of_block (hb.block _ h.box.lt), h.rr.below hb, h.ll.below hb, h.xl, h.vx, h.ux, h.vu⟩
theorem PS.storeR {g m c k : Nat} {x : Int} (h : PS w3 X (.slice (some ⟨g, 0, none⟩) m c) u rs lf b n wr) : PS w3 X (.slice (some ⟨g, 0, none⟩) m c) u (rs.set k x) lf b n (wr.setCell ⟨g, k, none⟩ (.int .i64 x)) := by
  have hg := IntSl.grownSet h.rr k x
  have hlo := (World.ownsRow.lt h.rr g rfl).1
  have hbl := h.bl
  refine ⟨grown_rowI h.gr hg (fun j hj => by injection hj with hj; omega), rd_grownI h.rd hg (fun j hj => by injection hj with hj; omega), h.bl, h.box.setOther (by have := h.vx g rfl; show X ≠ g; omega) _, h.rr.store k x, h.ll.row hg ?_, h.xl, h.vx, h.ux, h.vu⟩
  rcases h.vu with e | e
  · exact .inl e
  · exact .inr e
theorem PS.storeU (h : PS w3 X v u rs lf b n wr) (hu : IntSl wr w3.heap.size u' lf') (hx : ∀ k, u'.ownBlock = some k → k ≠ X) (hv : u'.ownBlock = none ∨ u'.ownBlock ≠ v.ownBlock) : PS w3 X v u' rs lf' b n (wr.setCell ⟨X, 1, none⟩ u') := by
  have hg := grown_set wr X 1 u'
  have hxl := h.xl
  have hbl := h.bl
  refine ⟨grown_rowI h.gr hg (fun j hj => by injection hj with hj; omega), rd_grownI h.rd hg (fun j hj => by injection hj with hj; omega), h.bl, (h.box.set 1 u').congr (fun j hj => ?_), h.rr.row hg ?_, hu.row hg ?_, h.xl, h.vx, hx, hv⟩
  · rcases (by omega : j = 0 ∨ j = 1) with rfl | rfl <;> rfl
  · cases e : v.ownBlock with
    | none => exact .inl rfl
    | some k => exact .inr (fun e' => by injection e' with e'; exact h.vx k e e')
  · cases e : u'.ownBlock with
    | none => exact .inl rfl
    | some k => exact .inr (fun e' => by injection e' with e'; exact hx k e e')
theorem PS.grew {o : Obj} (h : PS w3 X v u rs lf b n wr) (hg : (wr.alloc o).grownBy W u.ownBlock) : (∀ k, k < wr.heap.size → u.ownBlock ≠ some k → W.heap[k]? = wr.heap[k]?) ∧ W.heap[X]? = wr.heap[X]? := by
  have h1 : ∀ k, k < wr.heap.size → u.ownBlock ≠ some k → W.heap[k]? = wr.heap[k]? := fun k hk hne => (hg.block k (by simp; omega) (fun e => hne e.symm)).trans (heap_alloc_old wr o hk)
  exact ⟨h1, h1 X h.box.lt (fun e => h.ux X e rfl)⟩
theorem PS.pushX {o : Obj} (h : PS w3 X v u rs lf b n wr) (hg : (wr.alloc o).grownBy W u.ownBlock) : W.cell? ⟨X, 1, none⟩ = some u := (World.cell?_of_block (a := ⟨X, 1, none⟩) (h.grew hg).2).trans (h.box.cell (i := 1) (by omega))
theorem PS.pushF {o : Obj} (h : PS w3 X v u rs lf b n wr) (hg : (wr.alloc o).grownBy W u.ownBlock) : W.frozen? ⟨X, 1, none⟩ = false := (h.box.of_block (h.grew hg).2).frozen 1
theorem PS.push {o : Obj} {g' m cap : Nat} (h : PS w3 X v u rs lf b n wr) (hg : (wr.alloc o).grownBy W u.ownBlock) (hown : IntSl W w3.heap.size (.slice (some ⟨g', 0, none⟩) m cap) lf') (hplace : u.ownBlock = some g' ∨ g' = (wr.alloc o).heap.size) :
    PS w3 X v (.slice (some ⟨g', 0, none⟩) m cap) rs lf' b n (W.setCell ⟨X, 1, none⟩ (.slice (some ⟨g', 0, none⟩) m cap)) := by
  obtain ⟨hk, hX⟩ := h.grew hg
  have hxl := h.xl
  have hbl := h.bl
  have hXl := h.box.lt
  have hul : ∀ k, u.ownBlock = some k → w3.heap.size ≤ k := fun k hk => (World.ownsRow.lt h.ll k hk).1
  have hsz : wr.heap.size ≤ W.heap.size := by have := hg.size; simp at this; omega
  have hgr : w3.grownBy W (some b) := ⟨hg.os.trans h.gr.os, hg.tape.trans h.gr.tape, hg.output.trans h.gr.output, Nat.le_trans h.gr.size hsz, fun k hk1 hne => (hk k (Nat.lt_of_lt_of_le hk1 h.gr.size) (fun e => by have := hul k e; omega)).trans (h.gr.block k hk1 hne)⟩
  have hrr : IntSl W w3.heap.size v rs := World.ownsRow.kept (World.ownsRow.alloc h.rr o) hg (by
    cases e : v.ownBlock with
    | none => exact .inl rfl
    | some k => exact .inr (fun e' => by rcases h.vu with e3 | e3
                                         · rw [e3] at e'; cases e'
                                         · exact e3 (by rw [← e', e])))
  have hg2 := grown_set W X 1 (Value.slice (some ⟨g', 0, none⟩) m cap)
  have hbox : W.rowIs X 26 2 (fun j => if j = 0 then v else u) := h.box.of_block hX
  have hxg : g' ≠ X := by
    rcases hplace with e | e
    · exact h.ux _ e
    · rw [World.size_alloc] at e; omega
  refine ⟨grown_rowI hgr hg2 (fun j hj => by injection hj with hj; omega), rd_grownI (h.rd.kept (fun j hj => hk j (by omega) (fun e => by have := hul j e; omega))) hg2 (fun j hj => by injection hj with hj; omega), h.bl, (hbox.set 1 _).congr (fun j hj => ?_), hrr.row hg2 ?_, hown.row hg2 (.inr (fun e => by have e : some g' = some X := e; injection e with e; exact hxg e)), h.xl, h.vx, fun k hk' => ?_, .inr (fun e => ?_)⟩
  · rcases (by omega : j = 0 ∨ j = 1) with rfl | rfl <;> rfl
  · cases e : v.ownBlock with
    | none => exact .inl rfl
    | some k => exact .inr (fun e' => by injection e' with e'; exact h.vx k e e')
  · have hk' : some g' = some k := hk'
    injection hk' with hk'
    rw [← hk']
    exact hxg
  · have e : some g' = v.ownBlock := e
    have hv := World.ownsRow.lt h.rr g' e.symm
    rcases hplace with e2 | e2
    · rcases h.vu with e3 | e3
      · rw [e3] at e2; cases e2
      · exact e3 (e2.trans e)
    · rw [World.size_alloc] at e2; omega
theorem PS.x0 (h : PS w3 X v u rs lf b n wr) : wr.cell? ⟨X, 0, none⟩ = some v := h.box.cell (i := 0) (by omega)
theorem PS.x1 (h : PS w3 X v u rs lf b n wr) : wr.cell? ⟨X, 1, none⟩ = some u := h.box.cell (i := 1) (by omega)
end

theorem ItemSl.lower {w : World} {lo lo' : Nat} {v : Value} {l : List Item} (h : ItemSl w lo v l) (hl : lo' ≤ lo) : ItemSl w lo' v l := by
  obtain ⟨cs, ho, hc⟩ := h
  refine ⟨cs, ⟨ho.1, ?_⟩, hc⟩
  rcases ho.2 with hn | ⟨g, cap, cur, hv, hb, r⟩
  · exact .inl hn
  · exact .inr ⟨g, cap, cur, hv, Nat.le_trans hl hb, r⟩
theorem ItemSl.under {w w' : World} {lo : Nat} {v : Value} {l : List Item} (h : ItemSl w lo v l) (hb : Below w.heap.size w w') : ItemSl w' lo v l := by
  have ho := h
  obtain ⟨cs, ho, _⟩ := ho
  refine h.kept hb.size (fun j hj => hb.block j (ho.lt j hj).2) (fun A ht a ha => ?_)
  obtain ⟨_, cs, hcs⟩ := ht a ha
  exact hb.block _ (heap_lt hcs)

def DrewPlan (w : World) (b n : Nat) (e : Ending) (w' : World) : Prop :=
  ∃ (l : List Item) (A : Option Addr) (c : Nat) (want stock rs lf : List Int) (g1 c1 g2 c2 d e2 : Nat) (V U : Option Addr),
    e = .returned (.tuple #[.slice A l.length c, .slice (some ⟨g1, 0, none⟩) want.length c1, .slice (some ⟨g2, 0, none⟩) stock.length c2, .agg #[.slice V rs.length d, .slice U lf.length e2]]) ∧
    ItemSl w' w.heap.size (.slice A l.length c) l ∧ l.length ≤ 7 ∧ (∀ x ∈ l, x.parts.length ≤ 5) ∧ IntSl w' w.heap.size (.slice (some ⟨g1, 0, none⟩) want.length c1) want ∧ want.length ≤ 8 ∧
    IntSl w' w.heap.size (.slice (some ⟨g2, 0, none⟩) stock.length c2) stock ∧ stock.length ≤ 8 ∧ IntSl w' w.heap.size (.slice V rs.length d) rs ∧ rs.length ≤ 8 ∧ IntSl w' w.heap.size (.slice U lf.length e2) lf ∧ lf.length ≤ 9 ∧ (∀ x ∈ rs, x ≤ 9999960) ∧
    Rd w' b (n + 230) ∧ w.grownBy w' (some b)

set_option maxRecDepth 100000 in
set_option maxHeartbeats 4000000 in
theorem l20Plan_any (b n : Nat) (w : World) (hR : Rd w b n) (hn : n ≤ 70000) :
    Calls Tryd.prog 51 #[.pointer (some ⟨b, 0, none⟩)] w (DrewPlan w b n) := by
  have hblt := hR.lt
  have HRA : Hid (Rd (w.alloc (.cells #[.slice none 0 0, .slice none 0 0] 26)) b n) := hide (hR.kept (fun j hj => heap_alloc_old w _ (by omega)))
  have HGA : Hid (w.grownBy (w.alloc (.cells #[.slice none 0 0, .slice none 0 0] 26)) (some b)) := hide (World.grownBy_alloc w _ _)
  clear hR
  go_enter Tryd.func51, Tryd.ntmps51
  go_wp2_with fail
  refine (l20Items_any b n 14 _ HRA.out (by omega) (by omega)).mono ?_
  rintro e w1 ⟨l, v, rfl, hS1, hl, hp, hR1, hg1⟩
  have hbR1 : w1.heap[w.heap.size]? = some (.cells #[.slice none 0 0, .slice none 0 0] 26 (0, 0)) := (hg1.block _ (by simp) (fun e => by injection e with e; omega)).trans (heap_alloc_new w _)
  obtain ⟨A1, c1, hv, -⟩ := hS1.form
  subst hv
  have HS1 := hide hS1
  have HG1 := hide (HGA.out.trans hg1)
  have hsa : (w.alloc (.cells #[.slice none 0 0, .slice none 0 0] 26)).heap.size = w.heap.size + 1 := by simp
  have HR1 := hide hR1
  have hRw1 := heap_ltP hbR1
  have HBR1 := hide hbR1
  have HPt := hide hp
  clear hS1 hg1 hR1 hbR1 hp
  go_wp2_with fail
  refine (l20Amounts_any b _ l.length A1 c1 14 _ HR1.out (by omega) hl (by omega)).mono ?_
  rintro e w2 ⟨want, gw, cw, rfl, hX2, hwl, hR2, hg2, -⟩
  have HS2 := hide (HS1.out.pick HR1.out (by rw [hsa]; omega) hg2)
  have HG2 := hide (HG1.out.trans hg2)
  have HBR2 := hide ((hg2.block _ (heap_ltP HBR1.out) (fun e => by injection e with e; omega)).trans HBR1.out)
  have hRw2 := heap_ltP HBR2.out
  have HX2 := hide hX2
  have HR2 := hide hR2
  have hb1 := HR1.out.lt
  clear hX2 hg2 hR2
  go_wp2_with fail
  refine (l20Amounts_any b _ l.length A1 c1 14 _ HR2.out (by omega) hl (by omega)).mono ?_
  rintro e w3 ⟨stock, gs, cs, rfl, hY3, hsl, hR3, hg3, -⟩
  have HS3 := hide (HS2.out.pick HR2.out (by rw [hsa]; omega) hg3)
  have HG3 := hide (HG2.out.trans hg3)
  have HBR3 := hide ((hg3.block _ (heap_ltP HBR2.out) (fun e => by injection e with e; omega)).trans HBR2.out)
  have HX3 : Hid (IntSl w3 w1.heap.size (.slice (some ⟨gw, 0, none⟩) want.length cw) want) := hide (row_pickI HX2.out hb1 hg3)
  have HY3 : Hid (IntSl w3 w2.heap.size (.slice (some ⟨gs, 0, none⟩) stock.length cs) stock) := hide hY3
  have HR3 := hide hR3
  have hl' : l.length ≤ 1048576 := by omega
  have hw' : want.length ≤ 1048576 := by omega
  have hs' : stock.length ≤ 1048576 := by omega
  have hb3 := hR3.lt
  have hb2 := HR2.out.lt
  have HI3 : Hid (ItemsAt w3 A1 l) := hide (by obtain ⟨A3, c3, e, hI⟩ := HS3.out.form; injection e with e; rw [e]; exact hI)
  have HXI3 := hide (IntSl.ints HX3.out)
  have HYI3 := hide (IntSl.ints HY3.out)
  have HP : Hid (∀ x ∈ l, x.parts.length ≤ 1048576) := hide (fun x hx => by have := HPt.out x hx; omega)
  clear hY3 hg3 hR3 HS1 HS2 HG1 HG2 HBR1 HBR2 HX2 HR1 HR2 HRA HGA
  go_wp2_with fail
  refine (specPlanLeast_any _ _ _ _ _ _ _ _ _ _ HI3.out hl' HP.out HXI3.out hw' HYI3.out hs').mono ?_
  rintro e w4 ⟨v, u, rfl, hV, hU, hvu, hB4⟩
  have HG4 := hide (grown_belowI HG3.out hB4)
  have HS4 := hide (ItemSl.under HS3.out hB4)
  have HX4 := hide (HX3.out.below hB4)
  have HY4 := hide (HY3.out.below hB4)
  have HBR4 := hide ((hB4.block _ (heap_ltP HBR3.out)).trans HBR3.out)
  obtain ⟨rs, HRS⟩ : ∃ rs, Hid (planRunsL l want stock = rs) := ⟨_, hide rfl⟩
  obtain ⟨lf, HLF⟩ : ∃ lf, Hid (planLeftL l want stock = lf) := ⟨_, hide rfl⟩
  rw [HRS.out] at hV
  rw [HLF.out] at hU
  obtain ⟨V, d, rfl, -, hVb⟩ := hV.form
  obtain ⟨U, e2, rfl, -, hUb⟩ := hU.form
  obtain ⟨ok, HOK⟩ : ∃ ok, Hid (amountsOk l want stock = ok) := ⟨_, hide rfl⟩
  have hrsn : rs.length ≤ 7 ∧ lf.length ≤ 7 ∧ (ok = true → rs.length = l.length) ∧ (ok = false → rs.length = 0) ∧ (∀ x ∈ rs, 0 ≤ x ∧ x ≤ 9999899) := by
    rw [← HRS.out, ← HLF.out, ← HOK.out]
    unfold planRunsL planLeftL
    cases hk : amountsOk l want stock with
    | false => simp
    | true =>
      simp only [if_true]
      refine ⟨by rw [lstL_len]; exact hl, by rw [show (leastLeft l want stock).length = l.length from tab_len _ _]; exact hl, fun _ => lstL_len _ _ _, (fun h => by simp at h), lstL_small hk⟩
  have HRN := hide hrsn
  have hPS : PS w3 w4.heap.size (.slice V rs.length d) (.slice U lf.length e2) rs lf b (n + 160 + 20 + 20) (w4.alloc (.cells #[.slice V rs.length d, .slice U lf.length e2] 26)) := by
    refine ⟨grown_belowI (World.grownBy.refl w3 _) (hB4.alloc hB4.size _), rd_belowI HR3.out (hB4.alloc hB4.size _), hb3, ⟨_, heap_alloc_new w4 _, rfl, fun i hi => by rcases (by omega : i = 0 ∨ i = 1) with rfl | rfl <;> rfl⟩, World.ownsRow.alloc hV _, World.ownsRow.alloc hU _, hB4.size, fun k hk => ?_, fun k hk => ?_, ?_⟩
    · have := (World.ownsRow.lt hV k hk).2; omega
    · have := (World.ownsRow.lt hU k hk).2; omega
    · cases e : (Value.slice U lf.length e2).ownBlock with
      | none => exact .inl rfl
      | some k =>
        refine .inr (fun e' => ?_)
        rcases hvu with h | h
        · rw [h] at e'; cases e'
        · exact h (by rw [← e', e])
  have HPS := hide hPS
  rw [HOK.out]
  clear hPS hV hU hvu hVb hUb hB4 hrsn HI3 HXI3 HYI3
  go_upto_region 5 with fail
  go_cut [43] (fun s43 wc => ∃ β : Bool, s43 = .bool β ∧ PS w3 w4.heap.size (.slice V rs.length d) (.slice U lf.length e2) rs lf b (n + 201) wc ∧ (β = true → ok = true ∧ 0 < l.length ∧ rs.length = l.length))
  case first =>
    go_wp2_with fail
    refine (pick_any b _ 3 _ HPS.out.rd (by omega) (by omega)).mono ?_
    rintro e w5 ⟨q, rfl, hq0, hq1, hR5, hg5⟩
    have HP5 := hide ((HPS.out.pick hg5 hR5).mono (show n + 160 + 20 + 20 + 1 ≤ n + 201 by omega))
    have hx0 := HP5.out.x0
    clear hR5 hg5
    by_cases hq : 0 < q
    · have hd : decide (0 < q) = true := decide_eq_true hq
      by_cases hrl : rs.length = l.length
      · have he : ((rs.length : Int) == l.length) = true := by simp [hrl]
        by_cases hl0 : 0 < l.length
        · have hd2 : decide ((0 : Int) < (l.length : Int)) = true := decide_eq_true (by omega)
          have HOKt : Hid (ok = true) := hide (by
            cases hk : ok with
            | true => rfl
            | false => have := HRN.out.2.2.2.1 hk; omega)
          have HRL := hide hrl
          have HL0 := hide hl0
          clear hrl hq hl0
          go_wp2_with fail
          go_meet
          exact ⟨_, rfl, HP5.out, fun _ => ⟨HOKt.out, HL0.out, HRL.out⟩⟩
        · have hd2 : decide ((0 : Int) < (l.length : Int)) = false := decide_eq_false (by omega)
          have HL0 := hide hl0
          clear hrl hq hl0
          go_wp2_with fail
          go_meet
          exact ⟨_, rfl, HP5.out, fun h => absurd (by simpa using h) HL0.out⟩
      · have he : ((rs.length : Int) == l.length) = false := beq_false_of_ne (by omega)
        clear hrl hq
        go_wp2_with fail
        go_meet
        exact ⟨false, rfl, HP5.out, fun h => by cases h⟩
    · have hd : decide (0 < q) = false := decide_eq_false hq
      clear hq
      go_wp2_with fail
      go_meet
      exact ⟨false, rfl, HP5.out, fun h => by cases h⟩
  case rest =>
    obtain ⟨β, rfl, hP5, hβ⟩ := hcut
    have HP5 := hide hP5
    have HBT := hide hβ
    clear hP5 hβ HPS
    generalize w4.heap.size = X at *
    go_upto_if 43 with fail
    go_cut [11] (fun s11 wc => ∃ rs' lf' U' e', PS w3 X (.slice V rs.length d) (.slice U' lf'.length e') rs' lf' b (n + 220) wc ∧ rs'.length = rs.length ∧ lf'.length ≤ 7 ∧ ∀ x ∈ rs', x ≤ 9999960)
    case first =>
      cases β with
      | false =>
        go_wp2_with fail
        go_meet
        exact ⟨rs, lf, U, e2, HP5.out.mono (by omega), rfl, HRN.out.2.1, fun x hx => by have := HRN.out.2.2.2.2 x hx; omega⟩
      | true =>
        obtain ⟨hok, hl0, hrl⟩ := HBT.out rfl
        have hAM : amountsOk l want stock = true := by rw [HOK.out]; exact hok
        obtain ⟨hI1, ⟨hI2, hI3⟩, ⟨hI4, hI5⟩⟩ := amountsOk_at hAM
        have HIT := hide hI1
        obtain ⟨hwa, hwb⟩ := eqLe hI2
        obtain ⟨hsa2, hsb⟩ := eqLe hI4
        have HWr := hide hI3
        have HSr := hide hI5
        have hl6 := itemsOk_len hI1
        obtain ⟨gR, dd, hv, -, -⟩ := IntSl.own HP5.out.rr (by omega)
        injection hv with hv hv2 hv3
        subst hv hv3
        have HRL := hide hrl
        have hlr : l.length ≤ rs.length := by omega
        have HRG : Hid (∀ x ∈ rs, 0 ≤ x ∧ x ≤ 9999899) := hide HRN.out.2.2.2.2
        have HI3x : Hid (∀ W, w3.grownBy W (some b) → ItemsAt W A1 l) := hide (fun W h => by
          obtain ⟨A3, c3, e, hI⟩ := (HS3.out.pick HR3.out (by rw [hsa]; omega) h).form
          injection e with e
          rw [e]; exact hI)
        have HXW : Hid (∀ W, w3.grownBy W (some b) → IntsAt W (some ⟨gw, 0, none⟩) want) := hide (fun W h => IntSl.ints (lo := w1.heap.size) (n := want.length) (c := cw) (row_pickI HX3.out hb1 h))
        have HYW : Hid (∀ W, w3.grownBy W (some b) → IntsAt W (some ⟨gs, 0, none⟩) stock) := hide (fun W h => IntSl.ints (lo := w2.heap.size) (n := stock.length) (c := cs) (row_pickI HY3.out hb2 h))
        clear hI1 hI2 hI3 hI4 hI5 hAM hok hrl
        go_wp2_with fail
        go_loopw [11] (fun i wr => ∃ (k : Nat) (rs' : List Int), k ≤ l.length ∧ i = .int .i64 k ∧ Hid (rs'.length = rs.length) ∧ Hid (∀ x ∈ rs', 0 ≤ x ∧ x ≤ 9999899 + 8 * (k : Int)) ∧ PS w3 X (.slice (some ⟨gR, 0, none⟩) rs.length d) (.slice U lf.length e2) rs' lf b (n + 201 + 2 * k) wr) (fun i _ => l.length - (intOf i).toNat)
        case atStart => exact ⟨0, rs, Nat.zero_le _, rfl, hide rfl, hide (rng_up HRG.out (by omega)), HP5.out⟩
        case round =>
          obtain ⟨k, rs', hk, rfl, HLn, HRg, hP⟩ := hrel
          clear HP5
          have HPd := hide hP.drew
          have HPr := hide hP
          clear hP
          by_cases hlt : k < l.length
          · have hkr : k < rs'.length := by rw [HLn.out]; omega
            obtain ⟨r, hr⟩ : ∃ r, rs'[k]? = some r := ⟨_, List.getElem?_eq_getElem hkr⟩
            have hrb := HRg.out r (List.mem_of_getElem? hr)
            have hr0 : 0 ≤ r := hrb.1
            have hr1 : r ≤ 9999999 := by have := hrb.2; omega
            have hz : (0 : Int) ≤ k := by omega
            have hz2 : (k : Int) < l.length := by omega
            have hz3 : (k : Int) < rs.length := by omega
            have hx0 := HPd.out.x0
            have hc0 := IntSl.cellAt HPd.out.rr hr
            have HRR := hide hr
            clear hr hrb
            go_wp2_with fail
            go_region_law (first
              | (go_simp; go_at_call 70; (with_reducible refine (pick_any b _ 5 _ HPd.out.rd (by omega) (by omega)).mono ?_); rintro e w6 ⟨q6, rfl, hq60, hq61, hR6, hg6⟩; have HP6 := hide (HPd.out.pick hg6 hR6); have hx6 := HP6.out.x0; have hc6 := IntSl.cellAt HP6.out.rr HRR.out)
              | (go_simp; go_at_call 70; (with_reducible refine (pick_any b _ 3 _ HP6.out.rd (by omega) (by omega)).mono ?_); rintro e w7 ⟨q7, rfl, hq70, hq71, hR7, hg7⟩; have HP7 := hide (HP6.out.pick hg7 hR7); have hx7 := HP7.out.x0; have hc7 := IntSl.cellAt HP7.out.rr HRR.out; have hf7 := IntSl.frozenAt HP7.out.rr k; obtain ⟨hm0, hm1⟩ := mul_four hq60 (show q6 ≤ 4 by omega) hq70 (show q7 ≤ 2 by omega)))
            all_goals
              have HP8 := hide (HP7.out.storeR (k := k) (x := r + q6 * q7))
              clear hx0 hc0 hx6 hc6 hx7 hc7 hf7 hg6 hg7 hR6 hR7 HP6 HP7 HPd HPr
              go_wp2_with fail
              go_roundw
              case rel => exact ⟨k + 1, _, hlt, by go_num, hide (by rw [List.length_set]; exact HLn.out), hide (rng_set0 (rng_up HRg.out (by omega)) (by omega) (by have := HRg.out r (List.mem_of_getElem? HRR.out); omega)), HP8.out.mono (by omega)⟩
              case measure => simp [intOf]; omega
          · have hz2 : ¬ (k : Int) < l.length := by omega
            have HQ1 : Hid (rangeOk 9999999 rs' = true) := hide (range_of (rng_up HRg.out (by omega)))
            have hra1 : rs'.length ≤ l.length := by rw [HLn.out, HRL.out]; exact Nat.le_refl _
            have hrb1 : l.length ≤ rs'.length := by rw [HLn.out]; omega
            have hx0 := HPr.out.x0
            clear HPd
            go_wp2_with fail
            refine (l1Left_at _ _ _ _ _ _ _ _ _ _ _ _ _ _ HLn.out (HI3x.out _ HPr.out.gr) HIT ((HXW.out _ HPr.out.gr)) ((HYW.out _ HPr.out.gr)) (IntSl.ints HPr.out.rr) hwa hwb hsa2 hsb hra1 hrb1 HWr HSr HQ1).mono ?_
            rintro e w6 ⟨vw6, rfl, hSw6, hBw6⟩
            obtain ⟨Aw6, cw6, rfl, -, -⟩ := hSw6.form
            have HPBw6 := hide (HPr.out.below hBw6)
            have HPSw6 := hide (HPBw6.out.storeU (hSw6.mono HPr.out.gr.size) (fun j hj => by have := (World.ownsRow.lt hSw6 j hj).1; have := HPr.out.box.lt; omega) (by
              cases e : (Value.slice Aw6 (tab l.length (leftAt l want stock rs')).length cw6).ownBlock with
              | none => exact .inl rfl
              | some j => exact .inr (fun e' => by have e' : some j = some gR := e'; injection e' with e'; have := (World.ownsRow.lt hSw6 j e).1; have := (World.ownsRow.lt HPr.out.rr gR rfl).2; omega)))
            have hy0w6 := HPBw6.out.x0
            have hy1w6 := HPBw6.out.x1
            have hyfw6 := HPBw6.out.box.frozen 1
            clear hSw6 hBw6
            go_wp2_with fail
            have HLT6 : Hid ((tab l.length (leftAt l want stock rs')).length ≤ 7) := hide (by rw [tab_len]; exact hl)
            refine (pick_any b _ 3 _ HPSw6.out.rd (by omega) (by omega)).mono ?_
            rintro e w7 ⟨q7, rfl, hq70, hq71, hR7, hg7⟩
            have HP7 := hide ((HPSw6.out.pick hg7 hR7).mono (show n + 201 + 2 * k + 1 ≤ n + 215 by omega))
            clear hg7 hR7 hy0w6 hy1w6 hyfw6 hx0
            by_cases hq7 : q7 = 0
            · subst hq7
              have hpk : Hid (max (l.length : Int) 1 = l.length) := hide (by omega)
              go_wp2_with fail
              refine (pick_any b _ (l.length : Int) _ HP7.out.rd (by omega) (by omega)).mono ?_
              rintro e w8 ⟨q8, rfl, hq80, hq81, hR8, hg8⟩
              rw [hpk.out] at hq81
              have HP8 := hide ((HP7.out.pick hg8 hR8).mono (show n + 215 + 1 ≤ n + 216 by omega))
              clear hg8 hR8
              obtain ⟨o, rfl⟩ : ∃ o : Nat, q8 = o := ⟨q8.toNat, by omega⟩
              have hor : o < rs'.length := by omega
              obtain ⟨r, hr⟩ : ∃ r, rs'[o]? = some r := ⟨_, List.getElem?_eq_getElem hor⟩
              have hrb := HRg.out r (List.mem_of_getElem? hr)
              have hr0 : 0 ≤ r := hrb.1
              have hr1 : r ≤ 9999960 := by have := hrb.2; omega
              obtain ⟨m, HMm⟩ : ∃ m, Hid (max (r - 1) 0 = m) := ⟨_, hide rfl⟩
              have hmx : (if r - 1 < 0 then (0 : Int) else r - 1) = m := by rw [← HMm.out]; split <;> omega
              have hmx2 : max (r - 1) 0 = m := HMm.out
              have hm0 : 0 ≤ m := by rw [← HMm.out]; omega
              have hm1 : m ≤ r := by rw [← HMm.out]; omega
              have hwr1 : IntKind.i64.wrap (r - 1) = r - 1 := IntWalk.i64_in _ (by omega)
              have hwr2 : IntKind.i64.wrap m = m := IntWalk.i64_in _ (by omega)
              have hzo : (0 : Int) ≤ o := by omega
              have hzo3 : (o : Int) < rs.length := by omega
              have hx0 := HP8.out.x0
              have hc0 := IntSl.cellAt HP8.out.rr hr
              have hf0 := IntSl.frozenAt HP8.out.rr o
              have hHX : X < w8.heap.size := HP8.out.box.lt
              have hHG : gR < w8.heap.size := (World.ownsRow.lt HP8.out.rr gR rfl).2
              have HP9 := hide (HP8.out.storeR (k := o) (x := m)).drew
              have HQ2 : Hid (rangeOk 9999999 (rs'.set o m) = true) := hide (range_of (rng_set0 (rng_up HRg.out (by omega)) hm0 (by omega)))
              have HLs : Hid ((rs'.set o m).length = rs.length) := hide (by rw [List.length_set]; exact HLn.out)
              have hra2 : (rs'.set o m).length ≤ l.length := by rw [List.length_set]; exact hra1
              have hrb2 : l.length ≤ (rs'.set o m).length := by rw [List.length_set]; exact hrb1
              clear hr hrb
              go_wp2_with fail
              go_region
              clear hmx hmx2 hwr1
              have hx9 := HP9.out.x0
              go_wp2_with fail
              refine (l1Left_at _ _ _ _ _ _ _ _ _ _ _ _ _ _ HLs.out (HI3x.out _ HP9.out.gr) HIT ((HXW.out _ HP9.out.gr)) ((HYW.out _ HP9.out.gr)) (IntSl.ints HP9.out.rr) hwa hwb hsa2 hsb hra2 hrb2 HWr HSr HQ2).mono ?_
              rintro e w10 ⟨vw10, rfl, hSw10, hBw10⟩
              obtain ⟨Aw10, cw10, rfl, -, -⟩ := hSw10.form
              have HPBw10 := hide (HP9.out.below hBw10)
              have HPSw10 := hide (HPBw10.out.storeU (hSw10.mono HP9.out.gr.size) (fun j hj => by have := (World.ownsRow.lt hSw10 j hj).1; have := HP9.out.box.lt; omega) (by
                cases e : (Value.slice Aw10 (tab l.length (leftAt l want stock (rs'.set o m))).length cw10).ownBlock with
                | none => exact .inl rfl
                | some j => exact .inr (fun e' => by have e' : some j = some gR := e'; injection e' with e'; have := (World.ownsRow.lt hSw10 j e).1; have := (World.ownsRow.lt HP9.out.rr gR rfl).2; omega)))
              have hy0w10 := HPBw10.out.x0
              have hy1w10 := HPBw10.out.x1
              have hyfw10 := HPBw10.out.box.frozen 1
              clear hSw10 hBw10
              go_wp2_with fail
              go_meet
              exact ⟨_, _, _, _, HPSw10.out.mono (by omega), HLs.out, by rw [tab_len]; exact hl, fun x hx => by have := rng_set0 (k := o) (rng_up HRg.out (by omega)) hm0 (show m ≤ 9999960 by omega) x hx; omega⟩
            · have hqb : (q7 == 0) = false := beq_false_of_ne hq7
              clear hq7
              go_wp2_with fail
              go_meet
              exact ⟨_, _, _, _, HP7.out.mono (by omega), HLn.out, HLT6.out, fun x hx => by have := HRg.out x hx; omega⟩
    case rest =>
      obtain ⟨rs', lf', U', e', hPc, hl1, hl2, hl3⟩ := hcut
      have HB3 := hide hl3
      have HPc := hide hPc
      have HL1 := hide hl1
      clear HP5 HBT hPc hl1 hl3
      go_wp2_with fail
      refine (odd_any b _ 14 _ HPc.out.rd (by omega) (by omega)).mono ?_
      rintro e w5 ⟨β2, rfl, hR5, hg5⟩
      have HP5 := hide (HPc.out.pick hg5 hR5)
      clear hR5 hg5
      have HEND : Hid (∀ (W : World) (U2 : Option Addr) (lf2 : List Int) (e3 : Nat), lf2.length ≤ 9 → PS w3 X (.slice V rs.length d) (.slice U2 lf2.length e3) rs' lf2 b (n + 221) W → ∀ W', W'.os = W.os → W'.tape = W.tape → W'.output = W.output → W'.heap = ((W.setCell ⟨w.heap.size, 0, none⟩ (.slice V rs.length d)).setCell ⟨w.heap.size, 1, none⟩ (.slice U2 lf2.length e3)).heap →
          W'.cell? ⟨w.heap.size, 0, none⟩ = some (.slice V rs.length d) ∧ W'.cell? ⟨w.heap.size, 1, none⟩ = some (.slice U2 lf2.length e3) ∧
          DrewPlan w b n (.returned (.tuple #[.slice A1 l.length c1, .slice (some ⟨gw, 0, none⟩) want.length cw, .slice (some ⟨gs, 0, none⟩) stock.length cs, .agg #[.slice V rs.length d, .slice U2 lf2.length e3]])) W') := hide (by
        intro W U2 lf2 e3 hl9 hP W' hos htp hout hheap
        have hbR : W.heap[w.heap.size]? = some (.cells #[.slice none 0 0, .slice none 0 0] 26 (0, 0)) := (hP.gr.block _ (heap_ltP HBR3.out) (fun e => by injection e with e; omega)).trans HBR3.out
        have hbk2 : ((W.setCell ⟨w.heap.size, 0, none⟩ (.slice V rs.length d)).setCell ⟨w.heap.size, 1, none⟩ (.slice U2 lf2.length e3)).rowIs w.heap.size 26 2 (fun j => if j = 0 then .slice V rs.length d else .slice U2 lf2.length e3) := by
          have h0 : W.rowIs w.heap.size 26 2 (fun _ => .slice none 0 0) := ⟨_, hbR, rfl, fun i hi => by rcases (by omega : i = 0 ∨ i = 1) with rfl | rfl <;> rfl⟩
          exact ((h0.set 0 _).set 1 _).congr (fun i hi => by rcases (by omega : i = 0 ∨ i = 1) with rfl | rfl <;> rfl)
        have hbk3 : W'.rowIs w.heap.size 26 2 (fun j => if j = 0 then .slice V rs.length d else .slice U2 lf2.length e3) := by
          obtain ⟨c, h1, h2⟩ := hbk2
          exact ⟨c, by rw [hheap]; exact h1, h2⟩
        have hR1 : (W.setCell ⟨w.heap.size, 0, none⟩ (.slice V rs.length d)).heap[w.heap.size]? = some (.cells (#[Value.slice none 0 0, Value.slice none 0 0].setIfInBounds 0 (.slice V rs.length d)) 26 (0, 0)) := heap_setCell_same W _ 0 _ _ _ hbR
        have hkeep : ∀ k, k ≠ w.heap.size → W'.heap[k]? = W.heap[k]? := fun k hk => by rw [hheap, heap_setCell_other _ ⟨w.heap.size, 1, none⟩ k _ hk, heap_setCell_other _ ⟨w.heap.size, 0, none⟩ k _ hk]
        have hsz : W'.heap.size = W.heap.size := by rw [hheap]; simp
        have hg : W.grownBy W' (some w.heap.size) := ⟨hos, htp, hout, Nat.le_of_eq hsz.symm, fun k _ hk => hkeep k (fun e => hk (by rw [e]))⟩
        have hRw3 := heap_ltP HBR3.out
        have hIt : ItemSl W (w.alloc (.cells #[.slice none 0 0, .slice none 0 0] 26)).heap.size (.slice A1 l.length c1) l := HS3.out.pick HR3.out (by rw [hsa]; omega) hP.gr
        have hIt2 : ItemSl W' (w.alloc (.cells #[.slice none 0 0, .slice none 0 0] 26)).heap.size (.slice A1 l.length c1) l := by
          have ho := hIt
          obtain ⟨cs', ho, _⟩ := ho
          exact hIt.kept (Nat.le_of_eq hsz.symm) (fun k hk => hkeep k (by have := (ho.lt k hk).1; rw [hsa] at this; omega)) (fun A ht => ht.far hbR (by decide) hg)
        have hWn : IntSl W' w1.heap.size (.slice (some ⟨gw, 0, none⟩) want.length cw) want := IntSl.row (row_pickI HX3.out hb1 hP.gr : IntSl W w1.heap.size _ want) hg (.inr (fun e => by have e : some gw = some w.heap.size := e; injection e with e; have := (World.ownsRow.lt HX3.out gw rfl).1; omega))
        have hSn : IntSl W' w2.heap.size (.slice (some ⟨gs, 0, none⟩) stock.length cs) stock := IntSl.row (row_pickI HY3.out hb2 hP.gr : IntSl W w2.heap.size _ stock) hg (.inr (fun e => by have e : some gs = some w.heap.size := e; injection e with e; have := (World.ownsRow.lt HY3.out gs rfl).1; omega))
        have hRn : IntSl W' w3.heap.size (.slice V rs.length d) rs' := hP.rr.row hg (by
          cases e : (Value.slice V rs.length d).ownBlock with
          | none => exact .inl rfl
          | some k => exact .inr (fun e' => by injection e' with e'; have := (World.ownsRow.lt hP.rr k e).1; omega))
        have hUn : IntSl W' w3.heap.size (.slice U2 lf2.length e3) lf2 := hP.ll.row hg (by
          cases e : (Value.slice U2 lf2.length e3).ownBlock with
          | none => exact .inl rfl
          | some k => exact .inr (fun e' => by injection e' with e'; have := (World.ownsRow.lt hP.ll k e).1; omega))
        have hRdn : Rd W' b (n + 230) := (hP.rd.kept (fun j hj => hkeep j (by omega))).mono (by omega)
        have hgn : w.grownBy W' (some b) := ⟨hos.trans (hP.gr.os.trans HG3.out.os), htp.trans (hP.gr.tape.trans HG3.out.tape), hout.trans (hP.gr.output.trans HG3.out.output), by rw [hsz]; exact Nat.le_trans HG3.out.size hP.gr.size, fun k hk hne => (hkeep k (by omega)).trans ((hP.gr.block k (by omega) hne).trans (HG3.out.block k hk hne))⟩
        have f0 := hbk3.cell (i := 0) (by omega)
        have f1 := hbk3.cell (i := 1) (by omega)
        rw [if_pos rfl] at f0
        rw [if_neg (by omega)] at f1
        refine ⟨f0, f1, l, A1, c1, want, stock, rs', lf2, gw, cw, gs, cs, d, e3, V, U2, by rw [HL1.out], ItemSl.lower hIt2 (by rw [hsa]; omega), hl, HPt.out, hWn.mono (by omega), hwl, hSn.mono (by omega), hsl, ?_, by rw [HL1.out]; have := HRN.out.1; omega, hUn.mono (by omega), hl9, HB3.out, hRdn, hgn⟩
        rw [HL1.out]
        exact hRn.mono (by omega))
      have hbR5 : w5.heap[w.heap.size]? = some (.cells #[.slice none 0 0, .slice none 0 0] 26 (0, 0)) := (HP5.out.gr.block _ (heap_ltP HBR3.out) (fun e => by injection e with e; omega)).trans HBR3.out
      have HBR5 := hide hbR5
      clear hbR5
      cases β2 with
      | false =>
        have hx0 := HP5.out.x0
        have hx1 := HP5.out.x1
        have hf0 := frozen_of_row w5 w.heap.size 0 _ _ HBR5.out
        have hf1 := frozen_of_row w5 w.heap.size 1 _ _ HBR5.out
        have hg0 : w5.cell? ⟨w.heap.size, 0, none⟩ = some (.slice none 0 0) := by rw [cell_of_row w5 _ 0 _ _ _ HBR5.out]; rfl
        have hg1 : w5.cell? ⟨w.heap.size, 1, none⟩ = some (.slice none 0 0) := by rw [cell_of_row w5 _ 1 _ _ _ HBR5.out]; rfl
        go_wp2_with fail
        go_region
        all_goals
          go_wp2_with fail
          obtain ⟨f0, f1, hD⟩ := HEND.out w5 U' lf' e' (by omega) HP5.out ((w5.setCell ⟨w.heap.size, 0, none⟩ (.slice V rs.length d)).setCell ⟨w.heap.size, 1, none⟩ (.slice U' lf'.length e')).drew rfl rfl rfl rfl
          exact bodyPost_ret (v := .tuple #[.slice A1 l.length c1, .slice (some ⟨gw, 0, none⟩) want.length cw, .slice (some ⟨gs, 0, none⟩) stock.length cs, .agg #[.slice V rs.length d, .slice U' lf'.length e']]) (by simp [results, Tryd.results51, go_sem, f0, f1]) rfl hD
      | true =>
        have hx1 := HP5.out.x1
        have hl8 : lf'.length ≤ 1048576 := by omega
        have hw5 : w3.heap.size ≤ w5.heap.size := HP5.out.gr.size
        go_wp2_with (at_builtin; refine wpList_push_int rfl _ _ rfl w3.heap.size (.slice U' lf'.length e') lf' rfl (World.ownsRow.alloc HP5.out.ll _) w5.heap.size 0 rfl (heap_alloc_new w5 _) hl8 (by simp; omega) ?_; intro g' cap w6 hown hgrow hplace; have HP6 : Hid (PS w3 X (.slice V rs.length d) (.slice (some ⟨g', 0, none⟩) (lf'.length + 1) cap) rs' (lf' ++ [0]) b (n + 221) (w6.setCell ⟨X, 1, none⟩ (.slice (some ⟨g', 0, none⟩) (lf'.length + 1) cap))) := hide (PS.push HP5.out hgrow hown hplace); have hy1 : w6.cell? ⟨X, 1, none⟩ = some (.slice U' lf'.length e') := PS.pushX HP5.out hgrow; have hyf : w6.frozen? ⟨X, 1, none⟩ = false := PS.pushF HP5.out hgrow; clear hown hgrow hplace hx1)
        obtain ⟨W7, HW7⟩ : ∃ W7, w6.setCell ⟨X, 1, none⟩ (.slice (some ⟨g', 0, none⟩) (lf'.length + 1) cap) = W7 := ⟨_, rfl⟩
        rw [HW7] at HP6 ⊢
        have hbR7 : W7.heap[w.heap.size]? = some (.cells #[.slice none 0 0, .slice none 0 0] 26 (0, 0)) := (HP6.out.gr.block _ (heap_ltP HBR3.out) (fun e => by injection e with e; omega)).trans HBR3.out
        have hx0 := HP6.out.x0
        have hx1 := HP6.out.x1
        have hf0 := frozen_of_row W7 w.heap.size 0 _ _ hbR7
        have hf1 := frozen_of_row W7 w.heap.size 1 _ _ hbR7
        have hg0 : W7.cell? ⟨w.heap.size, 0, none⟩ = some (.slice none 0 0) := by rw [cell_of_row W7 _ 0 _ _ _ hbR7]; rfl
        have hg1 : W7.cell? ⟨w.heap.size, 1, none⟩ = some (.slice none 0 0) := by rw [cell_of_row W7 _ 1 _ _ _ hbR7]; rfl
        have hle : (lf' ++ [0]).length = lf'.length + 1 := by simp
        have HE7 : Hid (_) := hide (HEND.out W7 (some ⟨g', 0, none⟩) (lf' ++ [0]) cap (by rw [hle]; omega) (by rw [hle]; exact HP6.out) ((W7.setCell ⟨w.heap.size, 0, none⟩ (.slice V rs.length d)).setCell ⟨w.heap.size, 1, none⟩ (.slice (some ⟨g', 0, none⟩) (lf' ++ [0]).length cap)).drew rfl rfl rfl rfl)
        rw [hle] at HE7
        clear hy1 hyf HW7 hbR7 hle HEND HP6
        go_region
        all_goals
          go_wp2_with fail
          obtain ⟨f0, f1, hD⟩ := HE7.out
          exact bodyPost_ret (v := .tuple #[.slice A1 l.length c1, .slice (some ⟨gw, 0, none⟩) want.length cw, .slice (some ⟨gs, 0, none⟩) stock.length cs, .agg #[.slice V rs.length d, .slice (some ⟨g', 0, none⟩) (lf'.length + 1) cap]]) (by simp [results, Tryd.results51, go_sem, f0, f1]) rfl hD
end Go.Proofs.YtgagfaajilbmmaaDoor
