/- The draw of items, amounts in stock and a plan.
   Conditions: the bounds in each statement. -/
import Derived.Test.YtgpcbigaeodhfaaDoorLawKit
import Derived.Test.YtgpcbigaeodhfaaDoorBoxed
namespace Go.Proofs.YtgpcbigaeodhfaaDoor
open Go.RowKit Go.ChangeShapes Go.WideShapes Go.ChangeAt Go.Deep

def DrawnMR (w : World) (e : Ending) (w' : World) : Prop :=
  ∃ (l : List Item) (A : Option Addr) (c : Nat) (stock rs : List Int) (g2 c2 d n' e2 : Nat) (V U : Option Addr),
    e = .returned (.tuple #[.slice A l.length c, .slice (some ⟨g2, 0, none⟩) stock.length c2, .agg #[.slice V rs.length d, .slice U n' e2]]) ∧
    ItemsAt w' A l ∧ l.length ≤ 7 ∧ (∀ x ∈ l, x.parts.length ≤ 5) ∧ IntsAt w' (some ⟨g2, 0, none⟩) stock ∧ stock.length ≤ 8 ∧ IntsAt w' V rs ∧ rs.length ≤ 8 ∧ Below w.heap.size w w'

set_option maxRecDepth 100000 in
set_option maxHeartbeats 2000000 in
theorem drawMakeRun_any (A : Option Addr) (c m : Nat) (w : World) (hB : BytesIn w A m) (hm : m ≤ 9223372036854775807) (hc : m ≤ c) (hc2 : c ≤ 9223372036854775807) :
    Calls Tryd.prog 17 #[.slice A m c] w (DrawnMR w) := by
  have HBa : Hid (BytesIn (w.alloc (.cells #[.slice none 0 0, .slice none 0 0] 33)) A m) := hide (fun i hi => by
    obtain ⟨ab, off, v, e, hlt, h5, h6, h7⟩ := hB i hi
    exact ⟨ab, off, v, e, by simp; omega, h5, h6, (World.cell?_of_block (heap_alloc_old w _ hlt)).trans h7⟩)
  clear hB
  go_enter Tryd.func17, Tryd.ntmps17
  go_wp2_with fail
  refine (open_any A c m _ HBa.out hm hc hc2).mono ?_
  rintro e w1 ⟨rfl, hR1, hb1⟩
  have hz1 := hb1.size
  simp only [World.size_alloc] at hz1 hR1 hb1
  have HB1 := hide hb1
  have hbR1 : w1.heap[w.heap.size]? = some (.cells #[.slice none 0 0, .slice none 0 0] 33 (0, 0)) := (hb1.block w.heap.size (by omega)).trans (heap_alloc_new w _)
  have HBR1 := hide hbR1
  have hb1l := hR1.lt
  clear hbR1 hb1
  simp only [World.size_alloc]
  go_wp2_with fail
  refine (l20Plan_any (w.heap.size + 1) 0 _ hR1 (by omega)).mono ?_
  rintro e w2 ⟨l, A2, c2, want, stock, rs, lf, g1, d1, g2, d2, d, e2, V, U, rfl, hI, hl, hp, hW, hwl, hS, hsl, hV, hrl, hU, hll, -, -, hg2⟩
  have hbR2 : w2.heap[w.heap.size]? = some (.cells #[.slice none 0 0, .slice none 0 0] 33 (0, 0)) := (hg2.block _ (heap_ltP HBR1.out) (fun e => by injection e with e; omega)).trans HBR1.out
  have hRl2 := heap_ltP hbR2
  have hb2 : Below w.heap.size w w2 := (Below.alloc (Below.refl _ _) (Nat.le_refl _) _ |>.trans (HB1.out.mono (by omega))).grown hg2 (by omega) (fun j hj => by injection hj with hj; omega)
  have HP := hide hp
  go_wp2_with fail
  obtain ⟨w8, hW8⟩ : ∃ w8, w2.alloc (.cells #[.slice V rs.length d, .slice U lf.length e2] 33) = w8 := ⟨_, rfl⟩
  have hb8 : Below w.heap.size w w8 := by rw [← hW8]; exact hb2.alloc hb2.size _
  have hI8 : ItemSl w8 w1.heap.size (.slice A2 l.length c2) l := by rw [← hW8]; exact hI.alloc _
  have hS8 : IntSl w8 w1.heap.size (.slice (some ⟨g2, 0, none⟩) stock.length d2) stock := by rw [← hW8]; exact World.ownsRow.alloc hS _
  have hV8 : IntSl w8 w1.heap.size (.slice V rs.length d) rs := by rw [← hW8]; exact World.ownsRow.alloc hV _
  have hbR8 : w8.heap[w.heap.size]? = some (.cells #[.slice none 0 0, .slice none 0 0] 33 (0, 0)) := by rw [← hW8]; exact (heap_alloc_old w2 _ hRl2).trans hbR2
  have hbB8 : w8.heap[w2.heap.size]? = some (.cells #[.slice V rs.length d, .slice U lf.length e2] 33 (0, 0)) := by rw [← hW8]; exact heap_alloc_new w2 _
  rw [hW8]
  have hbx : Boxed w.heap.size w1.heap.size w8 ((w8.setCell ⟨w.heap.size, 0, none⟩ (.slice V rs.length d)).setCell ⟨w.heap.size, 1, none⟩ (.slice U lf.length e2)) := boxed2 hbR8 (heap_ltP HBR1.out)
  have HE := hide (And.intro (hbx.items hI8).at_ (And.intro (IntSl.ints (hbx.ints hS8)) (IntSl.ints (hbx.ints hV8))))
  have hbk2 : ((w8.setCell ⟨w.heap.size, 0, none⟩ (.slice V rs.length d)).setCell ⟨w.heap.size, 1, none⟩ (.slice U lf.length e2)).rowIs w.heap.size 33 2 (fun j => if j = 0 then .slice V rs.length d else .slice U lf.length e2) := by
    have h0 : w8.rowIs w.heap.size 33 2 (fun _ => .slice none 0 0) := ⟨_, hbR8, rfl, fun i hi => by rcases (by omega : i = 0 ∨ i = 1) with rfl | rfl <;> rfl⟩
    exact ((h0.set 0 _).set 1 _).congr (fun i hi => by rcases (by omega : i = 0 ∨ i = 1) with rfl | rfl <;> rfl)
  have f0 := hbk2.cell (i := 0) (by omega)
  have f1 := hbk2.cell (i := 1) (by omega)
  rw [if_pos rfl] at f0
  rw [if_neg (by omega)] at f1
  have HF := hide (And.intro f0 f1)
  have HBF : Hid (Below w.heap.size w ((w8.setCell ⟨w.heap.size, 0, none⟩ (.slice V rs.length d)).setCell ⟨w.heap.size, 1, none⟩ (.slice U lf.length e2))) := hide (hb8.grown hbx.grown hb8.size (fun j hj => by injection hj with hj; omega))
  have hf0 := frozen_of_row w8 w.heap.size 0 _ _ hbR8
  have hf1 := frozen_of_row w8 w.heap.size 1 _ _ hbR8
  have hg0 : w8.cell? ⟨w.heap.size, 0, none⟩ = some (.slice none 0 0) := by rw [cell_of_row w8 _ 0 _ _ _ hbR8]; rfl
  have hg1 : w8.cell? ⟨w.heap.size, 1, none⟩ = some (.slice none 0 0) := by rw [cell_of_row w8 _ 1 _ _ _ hbR8]; rfl
  have hq0 : w8.cell? ⟨w2.heap.size, 0, none⟩ = some (.slice V rs.length d) := by rw [cell_of_row w8 _ 0 _ _ _ hbB8]; rfl
  have hq1 : w8.cell? ⟨w2.heap.size, 1, none⟩ = some (.slice U lf.length e2) := by rw [cell_of_row w8 _ 1 _ _ _ hbB8]; rfl
  clear hI hp hW hS hV hU hg2 hbR2 hbx hbk2 f0 f1 hI8 hS8 hV8 hbR8 hbB8 hW8 hb8
  go_wp2_with fail
  go_region
  all_goals
    go_wp2_with fail
    obtain ⟨f0, f1⟩ := HF.out
    refine bodyPost_ret (v := .tuple #[.slice A2 l.length c2, .slice (some ⟨g2, 0, none⟩) stock.length d2, .agg #[.slice V rs.length d, .slice U lf.length e2]]) (by simp [results, Tryd.results17, go_sem, f0, f1]) rfl ⟨l, A2, c2, stock, rs, g2, d2, d, lf.length, e2, V, U, rfl, HE.out.1, hl, HP.out, HE.out.2.1, hsl, HE.out.2.2, hrl, by first | exact HBF.out | exact HBF.out.drew⟩
end Go.Proofs.YtgpcbigaeodhfaaDoor
