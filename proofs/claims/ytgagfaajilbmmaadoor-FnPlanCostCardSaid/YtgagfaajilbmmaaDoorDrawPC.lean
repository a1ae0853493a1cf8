/- The draw of items, prices and a plan.
   Conditions: the bounds in each statement. -/
import Derived.Test.YtgagfaajilbmmaaDoorLawKit
import Derived.Test.YtgagfaajilbmmaaDoorBoxed
import Derived.Test.YtgagfaajilbmmaaDoorDrawPrices
namespace Go.Proofs.YtgagfaajilbmmaaDoor
open Go.RowKit Go.ChangeShapes Go.WideShapes Go.ChangeAt Go.Deep

def DrawnPC (w : World) (e : Ending) (w' : World) : Prop :=
  ∃ (l : List Item) (A : Option Addr) (c : Nat) (ps rs lf : List Int) (g2 c2 d e2 : Nat) (V U : Option Addr),
    e = .returned (.tuple #[.slice A l.length c, .slice (some ⟨g2, 0, none⟩) ps.length c2, .agg #[.slice V rs.length d, .slice U lf.length e2]]) ∧
    ItemsAt w' A l ∧ l.length ≤ 7 ∧ (∀ x ∈ l, x.parts.length ≤ 5) ∧ IntsAt w' (some ⟨g2, 0, none⟩) ps ∧ ps.length ≤ 8 ∧ IntsAt w' V rs ∧ rs.length ≤ 8 ∧ (∀ x ∈ rs, x ≤ 9999960) ∧ Below w.heap.size w w'

set_option maxRecDepth 100000 in
set_option maxHeartbeats 2000000 in
theorem drawPlanCost_any (A : Option Addr) (c m : Nat) (w : World) (hB : BytesIn w A m) (hm : m ≤ 9223372036854775807) (hc : m ≤ c) (hc2 : c ≤ 9223372036854775807) :
    Calls Tryd.prog 12 #[.slice A m c] w (DrawnPC w) := by
  have HBa : Hid (BytesIn (w.alloc (.cells #[.slice none 0 0, .slice none 0 0] 26)) A m) := hide (fun i hi => by
    obtain ⟨ab, off, v, e, hlt, h5, h6, h7⟩ := hB i hi
    exact ⟨ab, off, v, e, by simp; omega, h5, h6, (World.cell?_of_block (heap_alloc_old w _ hlt)).trans h7⟩)
  clear hB
  go_enter Tryd.func12, Tryd.ntmps12
  go_wp2_with fail
  refine (open_any A c m _ HBa.out hm hc hc2).mono ?_
  rintro e w1 ⟨rfl, hR1, hb1⟩
  have hz1 := hb1.size
  simp only [World.size_alloc] at hz1 hR1 hb1
  have HB1 := hide hb1
  have hbR1 : w1.heap[w.heap.size]? = some (.cells #[.slice none 0 0, .slice none 0 0] 26 (0, 0)) := (hb1.block w.heap.size (by omega)).trans (heap_alloc_new w _)
  have HBR1 := hide hbR1
  have hb1l := hR1.lt
  clear hbR1 hb1
  simp only [World.size_alloc]
  go_wp2_with fail
  refine (l20Plan_any (w.heap.size + 1) 0 _ hR1 (by omega)).mono ?_
  rintro e w2 ⟨l, A2, c2, want, stock, rs, lf, g1, d1, g2, d2, d, e2, V, U, rfl, hI, hl, hp, hW, hwl, hS, hsl, hV, hrl, hU, hll, hrx, hR2, hg2⟩
  have hbR2 : w2.heap[w.heap.size]? = some (.cells #[.slice none 0 0, .slice none 0 0] 26 (0, 0)) := (hg2.block _ (heap_ltP HBR1.out) (fun e => by injection e with e; omega)).trans HBR1.out
  have hRl2 := heap_ltP hbR2
  have hb2 : Below w.heap.size w w2 := (Below.alloc (Below.refl _ _) (Nat.le_refl _) _ |>.trans (HB1.out.mono (by omega))).grown hg2 (by omega) (fun j hj => by injection hj with hj; omega)
  have HP := hide hp
  have HRX := hide hrx
  have hr2l := hR2.lt
  go_wp2_with fail
  obtain ⟨w8, hW8⟩ : ∃ w8, w2.alloc (.cells #[.slice V rs.length d, .slice U lf.length e2] 26) = w8 := ⟨_, rfl⟩
  have HB8 : Hid (Below w.heap.size w w8) := hide (by rw [← hW8]; exact hb2.alloc hb2.size _)
  have HI8 : Hid (ItemSl w8 w1.heap.size (.slice A2 l.length c2) l) := hide (by rw [← hW8]; exact hI.alloc _)
  have HV8 : Hid (IntSl w8 w1.heap.size (.slice V rs.length d) rs) := hide (by rw [← hW8]; exact World.ownsRow.alloc hV _)
  have HBR8 : Hid (w8.heap[w.heap.size]? = some (.cells #[.slice none 0 0, .slice none 0 0] 26 (0, 0))) := hide (by rw [← hW8]; exact (heap_alloc_old w2 _ hRl2).trans hbR2)
  have HBB8 : Hid (w8.heap[w2.heap.size]? = some (.cells #[.slice V rs.length d, .slice U lf.length e2] 26 (0, 0))) := hide (by rw [← hW8]; exact heap_alloc_new w2 _)
  have HR8 : Hid (Rd w8 (w.heap.size + 1) (0 + 230)) := hide (by rw [← hW8]; exact hR2.kept (fun j hj => heap_alloc_old w2 _ (by omega)))
  have HZ8 : Hid (w8.heap.size = w2.heap.size + 1) := hide (by rw [← hW8]; simp)
  have HZ2 : Hid (w1.heap.size ≤ w2.heap.size) := hide hg2.size
  have HR8d : Hid (Rd w8.drew (w.heap.size + 1) (0 + 230)) := hide (HR8.out.kept (fun _ _ => rfl))
  rw [hW8]
  have hq0 : w8.cell? ⟨w2.heap.size, 0, none⟩ = some (.slice V rs.length d) := by rw [cell_of_row w8 _ 0 _ _ _ HBB8.out]; rfl
  have hq1 : w8.cell? ⟨w2.heap.size, 1, none⟩ = some (.slice U lf.length e2) := by rw [cell_of_row w8 _ 1 _ _ _ HBB8.out]; rfl
  clear hI hp hW hS hV hU hg2 hbR2 hrx hR2 hb2 hW8
  go_wp2_with fail
  go_region_law (first
    | (go_simp; go_at_call 52; (with_reducible refine (l20Prices_any (w.heap.size + 1) _ l.length A2 c2 14 w8.drew HR8d.out (by omega) hl (by omega)).mono ?_); rintro e w9 ⟨xs, g9, c9, rfl, hX9, hxl9, hR9, hg9, hxr9⟩; have HX9 := hide hX9; have HG9 : Hid (w8.grownBy w9 (some (w.heap.size + 1))) := hide (World.grownBy.trans (show w8.grownBy w8.drew (some (w.heap.size + 1)) from ⟨rfl, rfl, rfl, Nat.le_refl _, fun _ _ _ => rfl⟩) hg9); have hs0 : w9.cell? ⟨w2.heap.size, 0, none⟩ = some (.slice V rs.length d) := (World.cell?_of_block (hg9.block w2.heap.size (by have := HZ8.out; show w2.heap.size < w8.heap.size; omega) (fun e => by injection e with e; omega))).trans hq0; have hs1 : w9.cell? ⟨w2.heap.size, 1, none⟩ = some (.slice U lf.length e2) := (World.cell?_of_block (hg9.block w2.heap.size (by have := HZ8.out; show w2.heap.size < w8.heap.size; omega) (fun e => by injection e with e; omega))).trans hq1; have HBR9 : Hid (w9.heap[w.heap.size]? = some (.cells #[.slice none 0 0, .slice none 0 0] 26 (0, 0))) := hide ((hg9.block w.heap.size (heap_ltP HBR8.out) (fun e => by injection e with e; omega)).trans HBR8.out); have hf0 := frozen_of_row w9 w.heap.size 0 _ _ HBR9.out; have hf1 := frozen_of_row w9 w.heap.size 1 _ _ HBR9.out; have hg0 : w9.cell? ⟨w.heap.size, 0, none⟩ = some (.slice none 0 0) := (by first | (rw [cell_of_row w9 _ 0 _ _ _ HBR9.out]; rfl) | rw [cell_of_row w9 _ 0 _ _ _ HBR9.out]); have hg1 : w9.cell? ⟨w.heap.size, 1, none⟩ = some (.slice none 0 0) := (by first | (rw [cell_of_row w9 _ 1 _ _ _ HBR9.out]; rfl) | rw [cell_of_row w9 _ 1 _ _ _ HBR9.out])))
  all_goals
    have hI9 : ItemSl w9 w1.heap.size (.slice A2 l.length c2) l := ItemSl.pick (w := w8) HI8.out HR8.out hb1l HG9.out
    have hV9 : IntSl w9 w1.heap.size (.slice V rs.length d) rs := row_pickI HV8.out hb1l HG9.out
    have hX9 : IntSl w9 w1.heap.size (.slice (some ⟨g9, 0, none⟩) xs.length c9) xs := IntSl.mono HX9.out (by have h1 := HZ2.out; have h2 := HZ8.out; show w1.heap.size ≤ w8.heap.size; omega)
    have hb9 : Below w.heap.size w w9 := HB8.out.grown HG9.out HB8.out.size (fun j hj => by injection hj with hj; omega)
    have hbx : Boxed w.heap.size w1.heap.size w9 ((w9.setCell ⟨w.heap.size, 0, none⟩ (.slice V rs.length d)).setCell ⟨w.heap.size, 1, none⟩ (.slice U lf.length e2)) := boxed2 HBR9.out (heap_ltP HBR1.out)
    have HE := hide (And.intro (hbx.items hI9).at_ (And.intro (IntSl.ints (hbx.ints hX9)) (IntSl.ints (hbx.ints hV9))))
    have hbk2 : ((w9.setCell ⟨w.heap.size, 0, none⟩ (.slice V rs.length d)).setCell ⟨w.heap.size, 1, none⟩ (.slice U lf.length e2)).rowIs w.heap.size 26 2 (fun j => if j = 0 then .slice V rs.length d else .slice U lf.length e2) := by
      have h0 : w9.rowIs w.heap.size 26 2 (fun _ => .slice none 0 0) := ⟨_, HBR9.out, rfl, fun i hi => by rcases (by omega : i = 0 ∨ i = 1) with rfl | rfl <;> rfl⟩
      exact ((h0.set 0 _).set 1 _).congr (fun i hi => by rcases (by omega : i = 0 ∨ i = 1) with rfl | rfl <;> rfl)
    have f0 := hbk2.cell (i := 0) (by omega)
    have f1 := hbk2.cell (i := 1) (by omega)
    rw [if_pos rfl] at f0
    rw [if_neg (by omega)] at f1
    have HF := hide (And.intro f0 f1)
    have HBF : Hid (Below w.heap.size w ((w9.setCell ⟨w.heap.size, 0, none⟩ (.slice V rs.length d)).setCell ⟨w.heap.size, 1, none⟩ (.slice U lf.length e2))) := hide (hb9.grown hbx.grown hb9.size (fun j hj => by injection hj with hj; omega))
    clear hI9 hV9 hX9 hbx hbk2 f0 f1 hb9
    go_wp2_with fail
    obtain ⟨f0, f1⟩ := HF.out
    refine bodyPost_ret (v := .tuple #[.slice A2 l.length c2, .slice (some ⟨g9, 0, none⟩) xs.length c9, .agg #[.slice V rs.length d, .slice U lf.length e2]]) (by simp [results, Tryd.results12, go_sem, f0, f1]) rfl ⟨l, A2, c2, xs, rs, lf, g9, c9, d, e2, V, U, rfl, HE.out.1, hl, HP.out, HE.out.2.1, hxl9, HE.out.2.2, hrl, HRX.out, by first | exact HBF.out | exact HBF.out.drew⟩
end Go.Proofs.YtgagfaajilbmmaaDoor
