/- Lists of tables of a house: contracts of the helpers that measure, copy and compare them, and their reading among a row's arguments.
   Conditions: the bounds in each statement. -/
import Derived.Test.YtmepnilnlpoodaaDoorTables
import Derived.Test.YtmepnilnlpoodaaDoorOrders
import Derived.Test.YtmepnilnlpoodaaDoorRead2
import Derived.Deep.DeepCutAuto
namespace Go.Proofs.YtmepnilnlpoodaaDoor
open Go.RowKit Go.ChangeShapes Go.WideShapes Go.ChangeAt Go.Deep

structure Tbl where
  avoid : Int
  dishes : List Order
  of : List Int

instance instTbl : Inhabited Tbl := ⟨⟨0, [], []⟩⟩

def TblsAt (w : World) (A : Option Addr) (l : List Tbl) : Prop :=
  ∀ i x, l[i]? = some x → ∃ b off A' c B' d, A = some ⟨b, off, none⟩ ∧ b < w.heap.size ∧ w.cell? ⟨b, off + i * 3, none⟩ = some (.int .i64 x.avoid) ∧
    w.cell? ⟨b, off + i * 3 + 1, none⟩ = some (.slice A' x.dishes.length c) ∧ w.cell? ⟨b, off + i * 3 + 2, none⟩ = some (.slice B' x.of.length d) ∧ OrdersAt w A' x.dishes ∧ IntsAt w B' x.of

theorem TblsAt.below {w w' : World} {A : Option Addr} {l : List Tbl} (h : TblsAt w A l) (hb : Below w.heap.size w w') : TblsAt w' A l := by
  intro i x hx
  obtain ⟨b, off, A', c, B', d, e, hlt, h1, h2, h3, h4, h5⟩ := h i x hx
  exact ⟨b, off, A', c, B', d, e, Nat.lt_of_lt_of_le hlt hb.size, (hb.cell hlt).trans h1, (hb.cell hlt).trans h2, (hb.cell hlt).trans h3, h4.below hb, h5.below hb⟩

def tblCell (G H : Nat → Nat) (l : List Tbl) (j : Nat) : Value :=
  match l[j / 3]? with
  | some x => if j % 3 = 0 then .int .i64 x.avoid else if j % 3 = 1 then .slice (some ⟨G (j / 3), 0, none⟩) x.dishes.length x.dishes.length else .slice (some ⟨H (j / 3), 0, none⟩) x.of.length x.of.length
  | none => .int .i64 0

def zeroTbl (j : Nat) : Value := if j % 3 = 0 then .int .i64 0 else .slice none 0 0

theorem tblCell0 {G H : Nat → Nat} {l : List Tbl} {i : Nat} {x : Tbl} (h : l[i]? = some x) : tblCell G H l (i * 3) = .int .i64 x.avoid := by
  unfold tblCell; rw [show i * 3 / 3 = i from by omega, h]; simp
theorem tblCell1 {G H : Nat → Nat} {l : List Tbl} {i : Nat} {x : Tbl} (h : l[i]? = some x) : tblCell G H l (i * 3 + 1) = .slice (some ⟨G i, 0, none⟩) x.dishes.length x.dishes.length := by
  unfold tblCell; rw [show (i * 3 + 1) / 3 = i from by omega, h]; simp [show (i * 3 + 1) % 3 = 1 from by omega]
theorem tblCell2 {G H : Nat → Nat} {l : List Tbl} {i : Nat} {x : Tbl} (h : l[i]? = some x) : tblCell G H l (i * 3 + 2) = .slice (some ⟨H i, 0, none⟩) x.of.length x.of.length := by
  unfold tblCell; rw [show (i * 3 + 2) / 3 = i from by omega, h]; simp [show (i * 3 + 2) % 3 = 2 from by omega]
theorem tblCell_congr {G G' H H' : Nat → Nat} {l : List Tbl} {j : Nat} (h : G (j / 3) = G' (j / 3)) (h2 : H (j / 3) = H' (j / 3)) : tblCell G H l j = tblCell G' H' l j := by
  unfold tblCell; rw [h, h2]

/-- Block g is the call's own row of the tables, the rows of each in later blocks. -/
def OwnTbls (w : World) (g : Nat) (l : List Tbl) : Prop :=
  ∃ G H : Nat → Nat, w.rowIs g 115 (l.length * 3) (tblCell G H l) ∧ ∀ i x, l[i]? = some x → g < G i ∧ g < H i ∧ OwnOrders w (G i) x.dishes ∧ OwnInts w (H i) x.of

theorem OwnTbls.below {w w' : World} {g : Nat} {l : List Tbl} (h : OwnTbls w g l) (hb : Below w.heap.size w w') : OwnTbls w' g l := by
  obtain ⟨G, H, h1, h2⟩ := h
  exact ⟨G, H, h1.of_block (hb.block _ h1.lt), fun i x hx => ⟨(h2 i x hx).1, (h2 i x hx).2.1, (h2 i x hx).2.2.1.below hb, (h2 i x hx).2.2.2.below hb⟩⟩

theorem OwnTbls.at_ {w : World} {g : Nat} {l : List Tbl} (h : OwnTbls w g l) : TblsAt w (some ⟨g, 0, none⟩) l := by
  obtain ⟨G, H, h1, h2⟩ := h
  intro i x hx
  have hi : i < l.length := (List.getElem?_eq_some_iff.1 hx).1
  refine ⟨g, 0, some ⟨G i, 0, none⟩, x.dishes.length, some ⟨H i, 0, none⟩, x.of.length, rfl, h1.lt, ?_, ?_, ?_, (h2 i x hx).2.2.1.at_, (h2 i x hx).2.2.2.at_⟩
  · rw [← tblCell0 (G := G) (H := H) hx, Nat.zero_add]; exact h1.cell (by omega)
  · rw [← tblCell1 (G := G) (H := H) hx, Nat.zero_add]; exact h1.cell (by omega)
  · rw [← tblCell2 (G := G) (H := H) hx, Nat.zero_add]; exact h1.cell (by omega)

theorem OwnOrders.far {w : World} {g : Nat} {xs : List Order} (h : OwnOrders w g xs) {a : Addr} (ha : g ≠ a.block) (v : Value) : OwnOrders (w.setCell a v) g xs := World.rowIs.setOther h ha v

theorem infoTbl : (Tryd.prog.info? 115).map (fun i => (i.zero, i.size, i.bytes)) = some (some (.agg #[.int .i64 0, .slice none 0 0, .slice none 0 0]), 3, 56) := by kernel_rfl

theorem madeTbl (n : Nat) (i : Nat) (hi : i < n * 3) : (madeCells #[.int .i64 0, .slice none 0 0, .slice none 0 0] (n * 3))[i]? = some (zeroTbl i) := by
  have : i % 3 = 0 ∨ i % 3 = 1 ∨ i % 3 = 2 := by omega
  rcases this with h | h | h <;> simp [madeCells, zeroTbl, hi, h]

theorem make_tbls (n : Nat) (hn : n ≤ 1048576) (w : World) :
    (Instr.makeSlice 31 (.int .i64 (n : Int)) (.int .i64 (n : Int))).run Tryd.prog w = .ok (.slice (some ⟨w.heap.size, 0, none⟩) n n) (w.alloc (.cells (madeCells #[.int .i64 0, .slice none 0 0, .slice none 0 0] (n * 3)) 115)) := by
  obtain ⟨i0, hi, hz0, hz1, hz2⟩ := info_parts infoTbl
  have := run_make (P := Tryd.prog) w 31 115 i0 _ Tryd.underlying31 hi hz0 .i64 .i64 n n (by omega) (by omega) (by rw [hz2]; omega) (by omega)
  simpa [hz1, Value.cells] using this

/-- What toTableS knows after k rounds. -/
def TblsTo (w : World) (g : Nat) (l : List Tbl) (k : Nat) : Prop :=
  ∃ G H : Nat → Nat, w.rowIs g 115 (l.length * 3) (fun j => if j < k * 3 then tblCell G H l j else zeroTbl j) ∧ ∀ i x, i < k → l[i]? = some x → g < G i ∧ g < H i ∧ OwnOrders w (G i) x.dishes ∧ OwnInts w (H i) x.of

theorem TblsTo.below {w w' : World} {g : Nat} {l : List Tbl} {k : Nat} (h : TblsTo w g l k) (hb : Below w.heap.size w w') : TblsTo w' g l k := by
  obtain ⟨G, H, h1, h2⟩ := h
  exact ⟨G, H, h1.of_block (hb.block _ h1.lt), fun i x hk hx => ⟨(h2 i x hk hx).1, (h2 i x hk hx).2.1, (h2 i x hk hx).2.2.1.below hb, (h2 i x hk hx).2.2.2.below hb⟩⟩
theorem TblsTo.lt {w : World} {g : Nat} {l : List Tbl} {k : Nat} (h : TblsTo w g l k) : g < w.heap.size := by
  obtain ⟨G, H, h1, _⟩ := h; exact h1.lt
theorem TblsTo.cell {w : World} {g : Nat} {l : List Tbl} {k : Nat} (h : TblsTo w g l k) (j : Nat) (hj : j < l.length * 3) : ∃ v, w.cell? ⟨g, j, none⟩ = some v := by
  obtain ⟨G, H, h1, _⟩ := h; exact ⟨_, h1.cell hj⟩
theorem TblsTo.frozen {w : World} {g : Nat} {l : List Tbl} {k : Nat} (h : TblsTo w g l k) (j : Nat) : w.frozen? ⟨g, j, none⟩ = false := by
  obtain ⟨G, H, h1, _⟩ := h; exact h1.frozen j

theorem TblsTo.step {w : World} {g g' g'' : Nat} {l : List Tbl} {k : Nat} {x : Tbl} (h : TblsTo w g l k) (hx : l[k]? = some x) (hg : g < g') (hg2 : g < g'') (hO : OwnOrders w g' x.dishes) (hI : OwnInts w g'' x.of) :
    TblsTo (((w.setCell ⟨g, k * 3, none⟩ (.int .i64 x.avoid)).setCell ⟨g, k * 3 + 1, none⟩ (.slice (some ⟨g', 0, none⟩) x.dishes.length x.dishes.length)).setCell ⟨g, k * 3 + 2, none⟩ (.slice (some ⟨g'', 0, none⟩) x.of.length x.of.length)) g l (k + 1) := by
  obtain ⟨G, H, h1, h2⟩ := h
  refine ⟨fun i => if i = k then g' else G i, fun i => if i = k then g'' else H i, ((((h1.set (k * 3) _).set (k * 3 + 1) _).set (k * 3 + 2) _).congr fun j hj => ?_), fun i y hi hy => ?_⟩
  · by_cases e0 : j = k * 3
    · subst e0
      rw [if_neg (by omega), if_neg (by omega), if_pos rfl, if_pos (by omega), tblCell0 hx]
    · by_cases e1 : j = k * 3 + 1
      · subst e1
        rw [if_neg (by omega), if_pos rfl, if_pos (by omega), tblCell1 hx, if_pos rfl]
      · by_cases e2 : j = k * 3 + 2
        · subst e2
          rw [if_pos rfl, if_pos (by omega), tblCell2 hx, if_pos rfl]
        · rw [if_neg e2, if_neg e1, if_neg e0]
          by_cases e : j < k * 3
          · rw [if_pos e, if_pos (by omega)]
            exact tblCell_congr (by rw [if_neg (by omega)]) (by rw [if_neg (by omega)])
          · rw [if_neg e, if_neg (by omega)]
  · by_cases e : i = k
    · subst e
      obtain rfl : y = x := by rw [hx] at hy; injection hy with hy; exact hy.symm
      simp only [if_pos]
      exact ⟨hg, hg2, ((hO.far (by simp; omega) _).far (by simp; omega) _).far (by simp; omega) _, ((hI.far (by simp; omega) _).far (by simp; omega) _).far (by simp; omega) _⟩
    · obtain ⟨hG, hH, hP, hQ⟩ := h2 i y (by omega) hy
      simp only [if_neg e]
      exact ⟨hG, hH, ((hP.far (by simp; omega) _).far (by simp; omega) _).far (by simp; omega) _, ((hQ.far (by simp; omega) _).far (by simp; omega) _).far (by simp; omega) _⟩

theorem TblsTo.all {w : World} {g : Nat} {l : List Tbl} {k : Nat} (h : TblsTo w g l k) (hk : l.length ≤ k) : OwnTbls w g l := by
  obtain ⟨G, H, h1, h2⟩ := h
  exact ⟨G, H, h1.congr fun j hj => if_pos (by omega), fun i x hx => h2 i x (by have := (List.getElem?_eq_some_iff.1 hx).1; omega) hx⟩

theorem three_new (w : World) (a b c : Obj) : (((w.alloc a).alloc b).alloc c).heap[w.heap.size]? = some a ∧ (((w.alloc a).alloc b).alloc c).heap[w.heap.size + 1]? = some b ∧ (((w.alloc a).alloc b).alloc c).heap[w.heap.size + 1 + 1]? = some c := by
  refine ⟨?_, ?_, ?_⟩
  · rw [heap_alloc_old _ _ (by simp; omega), heap_alloc_old _ _ (by simp)]; exact heap_alloc_new w _
  · rw [heap_alloc_old _ _ (by simp)]
    have := heap_alloc_new (w.alloc a) b
    simpa using this
  · have := heap_alloc_new ((w.alloc a).alloc b) c
    simpa using this
theorem put_three {W : World} {X : Nat} {t : TypeId} {a b c u v x : Value} (h : W.heap[X]? = some (.cells #[a, b, c] t (0, 0))) :
    (((W.setCell ⟨X, 0, none⟩ u).setCell ⟨X, 1, none⟩ v).setCell ⟨X, 2, none⟩ x).cell? ⟨X, 0, none⟩ = some u ∧ (((W.setCell ⟨X, 0, none⟩ u).setCell ⟨X, 1, none⟩ v).setCell ⟨X, 2, none⟩ x).cell? ⟨X, 1, none⟩ = some v ∧
      (((W.setCell ⟨X, 0, none⟩ u).setCell ⟨X, 1, none⟩ v).setCell ⟨X, 2, none⟩ x).cell? ⟨X, 2, none⟩ = some x := by
  have h3 := heap_setCell_same _ X 2 _ _ x (heap_setCell_same _ X 1 _ _ v (heap_setCell_same _ X 0 _ _ u h))
  exact ⟨by rw [cell_of_row _ _ 0 _ _ _ h3]; rfl, by rw [cell_of_row _ _ 1 _ _ _ h3]; rfl, by rw [cell_of_row _ _ 2 _ _ _ h3]; rfl⟩

/-- The bounds of a table's rows. -/
def TblLe (m : Nat) (x : Tbl) : Prop := x.dishes.length ≤ m ∧ x.of.length ≤ m

set_option maxHeartbeats 800000 in
theorem toTable_any (A B : Option Addr) (c d : Nat) (y : Int) (ds : List Order) (ps : List Int) (w : World) (h1 : OrdersAt w A ds) (h2 : IntsAt w B ps) (hl : ds.length ≤ 1048576) (hm : ps.length ≤ 1048576) :
    Calls Tryd.prog 71 #[.agg #[.int .i64 y, .slice A ds.length c, .slice B ps.length d]] w fun e w' => ∃ g g', e = .returned (.agg #[.int .i64 y, .slice (some ⟨g, 0, none⟩) ds.length ds.length, .slice (some ⟨g', 0, none⟩) ps.length ps.length]) ∧
      w.heap.size < g ∧ w.heap.size < g' ∧ OwnOrders w' g ds ∧ OwnInts w' g' ps ∧ Below w.heap.size w w' := by
  go_enter Tryd.func71, Tryd.ntmps71
  have hba : Below w.heap.size w (((w.alloc (.cells #[.int .i64 y, .slice A ds.length c, .slice B ps.length d] 111)).alloc (.cells #[.int .i64 0, .slice none 0 0, .slice none 0 0] 115)).alloc (.cells #[.int .i64 y, .slice none 0 0, .slice none 0 0] 115)) := by go_grown
  obtain ⟨hx0, hx1, hx2⟩ := three_new w (.cells #[.int .i64 y, .slice A ds.length c, .slice B ps.length d] 111) (.cells #[.int .i64 0, .slice none 0 0, .slice none 0 0] 115) (.cells #[.int .i64 y, .slice none 0 0, .slice none 0 0] 115)
  go_upto_region 3 with fail
  obtain ⟨wa, hwa⟩ : ∃ wa, (((w.alloc (.cells #[.int .i64 y, .slice A ds.length c, .slice B ps.length d] 111)).alloc (.cells #[.int .i64 0, .slice none 0 0, .slice none 0 0] 115)).alloc (.cells #[.int .i64 y, .slice none 0 0, .slice none 0 0] 115)) = wa := ⟨_, rfl⟩
  rw [hwa] at hba hx0 hx1 hx2 ⊢
  clear hwa
  have hs2 := (Array.getElem?_eq_some_iff.1 hx2).1
  have c0 : wa.cell? ⟨w.heap.size, 1, none⟩ = some (.slice A ds.length c) := by rw [cell_of_row _ _ 1 _ _ _ hx0]; rfl
  go_wp2_with fail
  refine (toOrderS_any _ _ _ _ (h1.below hba) hl).mono ?_
  rintro e w1 ⟨rfl, hO, hB1⟩
  have hb1 := next hba hB1
  have hy0 := (hB1.block w.heap.size (by omega)).trans hx0
  have hy1 := (hB1.block (w.heap.size + 1) (by omega)).trans hx1
  have hy2 := (hB1.block (w.heap.size + 1 + 1) hs2).trans hx2
  have d0 : w1.cell? ⟨w.heap.size + 1 + 1, 1, none⟩ = some (.slice none 0 0) := by rw [cell_of_row _ _ 1 _ _ _ hy2]; rfl
  have d1 := frozen_of_row w1 (w.heap.size + 1 + 1) 1 _ _ hy2
  have hz1 := hB1.size
  clear c0 hx0 hx1 hx2
  go_upto_region 4 with fail
  obtain ⟨W2, hW2⟩ : ∃ W2, w1.setCell ⟨w.heap.size + 1 + 1, 1, none⟩ (.slice (some ⟨wa.heap.size, 0, none⟩) ds.length ds.length) = W2 := ⟨_, rfl⟩
  have hb2 : Below w.heap.size w W2 := by rw [← hW2]; exact hb1.setCell (p := ⟨w.heap.size + 1 + 1, 1, none⟩) (by simp; omega) _
  have hO2 : OwnOrders W2 wa.heap.size ds := by rw [← hW2]; exact hO.far (by simp; omega) _
  have hq0 : W2.heap[w.heap.size]? = some (.cells #[.int .i64 y, .slice A ds.length c, .slice B ps.length d] 111 (0, 0)) := by rw [← hW2, heap_setCell_other _ ⟨w.heap.size + 1 + 1, 1, none⟩ _ _ (by simp; omega)]; exact hy0
  have hq1 : W2.heap[w.heap.size + 1]? = some (.cells #[.int .i64 0, .slice none 0 0, .slice none 0 0] 115 (0, 0)) := by rw [← hW2, heap_setCell_other _ ⟨w.heap.size + 1 + 1, 1, none⟩ _ _ (by simp)]; exact hy1
  have hq2 : W2.heap[w.heap.size + 1 + 1]? = some (.cells #[.int .i64 y, .slice (some ⟨wa.heap.size, 0, none⟩) ds.length ds.length, .slice none 0 0] 115 (0, 0)) := by rw [← hW2, heap_setCell_same _ (w.heap.size + 1 + 1) 1 _ _ _ hy2]; rfl
  have hz2 : w1.heap.size = W2.heap.size := by rw [← hW2]; simp
  rw [hW2]
  clear hW2 d0 d1 hy0 hy1 hy2 hO hb1 hB1
  have hs3 := (Array.getElem?_eq_some_iff.1 hq2).1
  have c1 : W2.cell? ⟨w.heap.size, 2, none⟩ = some (.slice B ps.length d) := by rw [cell_of_row _ _ 2 _ _ _ hq0]; rfl
  have HZ := hide (And.intro hz1 hz2)
  clear hz1 hz2
  go_wp2_with fail
  refine (toIntS_any _ _ _ _ (h2.below hb2) hm).mono ?_
  rintro e w3 ⟨rfl, hI, hB3⟩
  have hb3 := next hb2 hB3
  have hO3 := hO2.below hB3
  have hy1 := (hB3.block (w.heap.size + 1) (by omega)).trans hq1
  have hy2 := (hB3.block (w.heap.size + 1 + 1) hs3).trans hq2
  have d0 : w3.cell? ⟨w.heap.size + 1 + 1, 2, none⟩ = some (.slice none 0 0) := by rw [cell_of_row _ _ 2 _ _ _ hy2]; rfl
  have d1 := frozen_of_row w3 (w.heap.size + 1 + 1) 2 _ _ hy2
  have hz3 := hB3.size
  clear c1 hq0 hq1 hq2 hO2
  go_upto_region 5 with fail
  obtain ⟨W4, hW4⟩ : ∃ W4, w3.setCell ⟨w.heap.size + 1 + 1, 2, none⟩ (.slice (some ⟨W2.heap.size, 0, none⟩) ps.length ps.length) = W4 := ⟨_, rfl⟩
  have hb4 : Below w.heap.size w W4 := by rw [← hW4]; exact hb3.setCell (p := ⟨w.heap.size + 1 + 1, 2, none⟩) (by simp; omega) _
  have hO4 : OwnOrders W4 wa.heap.size ds := by rw [← hW4]; exact hO3.far (by simp; omega) _
  have hI4 : OwnInts W4 W2.heap.size ps := by rw [← hW4]; exact hI.far (by simp; omega) _
  have hq1 : W4.heap[w.heap.size + 1]? = some (.cells #[.int .i64 0, .slice none 0 0, .slice none 0 0] 115 (0, 0)) := by rw [← hW4, heap_setCell_other _ ⟨w.heap.size + 1 + 1, 2, none⟩ _ _ (by simp)]; exact hy1
  have hq2 : W4.heap[w.heap.size + 1 + 1]? = some (.cells #[.int .i64 y, .slice (some ⟨wa.heap.size, 0, none⟩) ds.length ds.length, .slice (some ⟨W2.heap.size, 0, none⟩) ps.length ps.length] 115 (0, 0)) := by rw [← hW4, heap_setCell_same _ (w.heap.size + 1 + 1) 2 _ _ _ hy2]; rfl
  rw [hW4]
  clear hW4 d0 d1 hy1 hy2 hO3 hI hb3 hB3
  have c0 : W4.cell? ⟨w.heap.size + 1 + 1, 0, none⟩ = some (.int .i64 y) := by rw [cell_of_row _ _ 0 _ _ _ hq2]; rfl
  have c1 : W4.cell? ⟨w.heap.size + 1 + 1, 1, none⟩ = some (.slice (some ⟨wa.heap.size, 0, none⟩) ds.length ds.length) := by rw [cell_of_row _ _ 1 _ _ _ hq2]; rfl
  have c2 : W4.cell? ⟨w.heap.size + 1 + 1, 2, none⟩ = some (.slice (some ⟨W2.heap.size, 0, none⟩) ps.length ps.length) := by rw [cell_of_row _ _ 2 _ _ _ hq2]; rfl
  have e0 : W4.cell? ⟨w.heap.size + 1, 0, none⟩ = some (.int .i64 0) := by rw [cell_of_row _ _ 0 _ _ _ hq1]; rfl
  have e1 : W4.cell? ⟨w.heap.size + 1, 1, none⟩ = some (.slice none 0 0) := by rw [cell_of_row _ _ 1 _ _ _ hq1]; rfl
  have e2 : W4.cell? ⟨w.heap.size + 1, 2, none⟩ = some (.slice none 0 0) := by rw [cell_of_row _ _ 2 _ _ _ hq1]; rfl
  have k0 := frozen_of_row W4 (w.heap.size + 1) 0 _ _ hq1
  have k1 := frozen_of_row W4 (w.heap.size + 1) 1 _ _ hq1
  have k2 := frozen_of_row W4 (w.heap.size + 1) 2 _ _ hq1
  have HR := hide (put_three (u := .int .i64 y) (v := .slice (some ⟨wa.heap.size, 0, none⟩) ds.length ds.length) (x := .slice (some ⟨W2.heap.size, 0, none⟩) ps.length ps.length) hq1)
  have HB5 := hide (((hb4.setCell (p := ⟨w.heap.size + 1, 0, none⟩) (by simp) (.int .i64 y)).setCell (p := ⟨w.heap.size + 1, 1, none⟩) (by simp) (.slice (some ⟨wa.heap.size, 0, none⟩) ds.length ds.length)).setCell (p := ⟨w.heap.size + 1, 2, none⟩) (by simp) (.slice (some ⟨W2.heap.size, 0, none⟩) ps.length ps.length))
  have hl1 : wa.heap.size ≠ w.heap.size + 1 := by omega
  have hl2 : W2.heap.size ≠ w.heap.size + 1 := by omega
  have HO5 := hide (((hO4.far (a := ⟨w.heap.size + 1, 0, none⟩) hl1 (.int .i64 y)).far (a := ⟨w.heap.size + 1, 1, none⟩) hl1 (.slice (some ⟨wa.heap.size, 0, none⟩) ds.length ds.length)).far (a := ⟨w.heap.size + 1, 2, none⟩) hl1 (.slice (some ⟨W2.heap.size, 0, none⟩) ps.length ps.length))
  have HI5 := hide (((hI4.far (a := ⟨w.heap.size + 1, 0, none⟩) hl2 (.int .i64 y)).far (a := ⟨w.heap.size + 1, 1, none⟩) hl2 (.slice (some ⟨wa.heap.size, 0, none⟩) ds.length ds.length)).far (a := ⟨w.heap.size + 1, 2, none⟩) hl2 (.slice (some ⟨W2.heap.size, 0, none⟩) ps.length ps.length))
  have hg1 : w.heap.size < wa.heap.size := by omega
  have hg2 : w.heap.size < W2.heap.size := by omega
  clear hq1 hq2 hO4 hI4 hb4
  go_wp2_with fail
  obtain ⟨f0, f1, f2⟩ := HR.out
  exact bodyPost_ret (v := .agg #[.int .i64 y, .slice (some ⟨wa.heap.size, 0, none⟩) ds.length ds.length, .slice (some ⟨W2.heap.size, 0, none⟩) ps.length ps.length]) (by simp [results, Tryd.results71, go_sem, f0, f1, f2]) rfl ⟨_, _, rfl, hg1, hg2, HO5.out, HI5.out, HB5.out⟩

set_option maxHeartbeats 800000 in
theorem toTableS_any (A : Option Addr) (c : Nat) (l : List Tbl) (w : World) (hA : TblsAt w A l) (hl : l.length ≤ 1048576) (hp : ∀ x ∈ l, TblLe 1048576 x) :
    Calls Tryd.prog 37 #[.slice A l.length c] w fun e w' => e = .returned (.slice (some ⟨w.heap.size, 0, none⟩) l.length l.length) ∧ OwnTbls w' w.heap.size l ∧ Below w.heap.size w w' := by
  have hmk := make_tbls l.length hl
  have HP := hide hp
  clear hp
  go_enter Tryd.func37, Tryd.ntmps37
  go_wp2_with fail
  clear hmk
  go_loopw [4] (fun i wr => ∃ k : Nat, k ≤ l.length ∧ i = .int .i64 k ∧ TblsTo wr w.heap.size l k ∧ Below w.heap.size w wr) (fun i _ => l.length - (intOf i).toNat)
  case atStart => exact ⟨0, Nat.zero_le _, rfl, ⟨fun _ => 0, fun _ => 0, ⟨_, Deep.blk_alloc_new _ _, size_madeCells _ _, fun i hi => by rw [madeTbl _ _ hi]; simp⟩, fun i x hi => absurd hi (by omega)⟩, by go_grown⟩
  case round =>
    obtain ⟨k, hk, rfl, hrow, hb⟩ := hrel
    have hsz := hb.size
    by_cases hlt : k < l.length
    · obtain ⟨b, off, A', c', B', d', rfl, hbl, hc1, hc2, hc3, hpa, hpb⟩ := (hA.below hb) k l[k] (List.getElem?_eq_getElem hlt)
      have HX : Hid (l[k]? = some l[k]) := hide (List.getElem?_eq_getElem hlt)
      obtain ⟨hx, hx2⟩ := HP.out _ (List.getElem_mem hlt)
      generalize l[k] = x at *
      have hz : (0 : Int) ≤ k := by omega
      have hz2 : (k : Int) < l.length := by omega
      go_wp2_with fail
      refine (toTable_any _ _ _ _ _ _ _ _ hpa hpb hx hx2).mono ?_
      rintro e w' ⟨g, g', rfl, hg, hg', hO, hI, hB⟩
      have hrow2 := hrow.below hB
      have hlt2 := hrow.lt
      obtain ⟨v1, hq1⟩ := hrow2.cell (k * 3) (by omega)
      obtain ⟨v2, hq2⟩ := hrow2.cell (k * 3 + 1) (by omega)
      obtain ⟨v3, hq3⟩ := hrow2.cell (k * 3 + 2) (by omega)
      have hf := hrow2.frozen
      have hb2 : Below w.heap.size w w' := next hb hB
      have hsz2 := hb2.size
      have HS := hide (hrow2.step HX.out (by omega) (by omega) hO hI)
      go_wp2_with fail
      go_roundw
      case rel => exact ⟨k + 1, hlt, by go_num, HS.out, by go_grown⟩
      case measure => simp [intOf]; omega
    · go_wp2_with fail
      go_ret
      exact ⟨rfl, hrow.all (by omega), by go_grown⟩

set_option maxHeartbeats 800000 in
theorem eqTable_same (A A' B B' : Option Addr) (c c' d d' : Nat) (y : Int) (ds : List Order) (ps : List Int) (w : World) (h1 : OrdersAt w A ds) (h2 : OrdersAt w A' ds) (h3 : IntsAt w B ps) (h4 : IntsAt w B' ps) (hl : ds.length ≤ 1048576) (hm : ps.length ≤ 1048576) :
    Calls Tryd.prog 81 #[.agg #[.int .i64 y, .slice A ds.length c, .slice B ps.length d], .agg #[.int .i64 y, .slice A' ds.length c', .slice B' ps.length d']] w fun e w' => e = .returned (.bool true) ∧ Below w.heap.size w w' := by
  have hy : (y != y) = false := by simp
  have hba : Below w.heap.size w ((w.alloc (.cells #[.int .i64 y, .slice A ds.length c, .slice B ps.length d] 115)).alloc (.cells #[.int .i64 y, .slice A' ds.length c', .slice B' ps.length d'] 115)) := by go_grown
  have hx0 := (heap_alloc_old (w.alloc (.cells #[.int .i64 y, .slice A ds.length c, .slice B ps.length d] 115)) (.cells #[.int .i64 y, .slice A' ds.length c', .slice B' ps.length d'] 115) (by simp : w.heap.size < _)).trans (heap_alloc_new w _)
  have hx1 : ((w.alloc (.cells #[.int .i64 y, .slice A ds.length c, .slice B ps.length d] 115)).alloc (.cells #[.int .i64 y, .slice A' ds.length c', .slice B' ps.length d'] 115)).heap[w.heap.size + 1]? = some (.cells #[.int .i64 y, .slice A' ds.length c', .slice B' ps.length d'] 115 (0, 0)) := by
    have := heap_alloc_new (w.alloc (.cells #[.int .i64 y, .slice A ds.length c, .slice B ps.length d] 115)) (.cells #[.int .i64 y, .slice A' ds.length c', .slice B' ps.length d'] 115)
    simpa using this
  go_enter Tryd.func81, Tryd.ntmps81
  go_upto_region 3 with fail
  obtain ⟨wa, hwa⟩ : ∃ wa, ((w.alloc (.cells #[.int .i64 y, .slice A ds.length c, .slice B ps.length d] 115)).alloc (.cells #[.int .i64 y, .slice A' ds.length c', .slice B' ps.length d'] 115)) = wa := ⟨_, rfl⟩
  rw [hwa] at hba hx0 hx1 ⊢
  clear hwa
  have h1a := h1.below hba
  have h2a := h2.below hba
  have h3a := h3.below hba
  have h4a := h4.below hba
  have c0 : wa.cell? ⟨w.heap.size, 1, none⟩ = some (.slice A ds.length c) := by rw [cell_of_row _ _ 1 _ _ _ hx0]; rfl
  have c1 : wa.cell? ⟨w.heap.size + 1, 1, none⟩ = some (.slice A' ds.length c') := by rw [cell_of_row _ _ 1 _ _ _ hx1]; rfl
  go_wp2_with fail
  refine (eqOrderS_same _ _ _ _ _ _ h1a h2a hl).mono ?_
  rintro e w1 ⟨rfl, hB⟩
  have hb1 := next hba hB
  have hz0 := (hB.block w.heap.size (Array.getElem?_eq_some_iff.1 hx0).1).trans hx0
  have hz1 := (hB.block (w.heap.size + 1) (Array.getElem?_eq_some_iff.1 hx1).1).trans hx1
  have c2 : w1.cell? ⟨w.heap.size, 2, none⟩ = some (.slice B ps.length d) := by rw [cell_of_row _ _ 2 _ _ _ hz0]; rfl
  have c3 : w1.cell? ⟨w.heap.size + 1, 2, none⟩ = some (.slice B' ps.length d') := by rw [cell_of_row _ _ 2 _ _ _ hz1]; rfl
  clear c0 c1
  go_wp2_with fail
  refine (eqIntS_same _ _ _ _ _ _ (h3a.below hB) (h4a.below hB) hm).mono ?_
  rintro e w2 ⟨rfl, hB2⟩
  go_wp2_with fail
  go_ret
  exact ⟨rfl, next hb1 hB2⟩

set_option maxHeartbeats 800000 in
theorem eqTableS_same (A A' : Option Addr) (c c' : Nat) (l : List Tbl) (w : World) (h1 : TblsAt w A l) (h2 : TblsAt w A' l) (hl : l.length ≤ 1048576) (hp : ∀ x ∈ l, TblLe 1048576 x) :
    Calls Tryd.prog 43 #[.slice A l.length c, .slice A' l.length c'] w fun e w' => e = .returned (.bool true) ∧ Below w.heap.size w w' := by
  have he : ((l.length : Int) != l.length) = false := by simp
  have HP := hide hp
  clear hp
  go_enter Tryd.func43, Tryd.ntmps43
  go_wp2_with fail
  go_loopw [5] (fun i wr => ∃ k : Nat, k ≤ l.length ∧ i = .int .i64 k ∧ Below w.heap.size w wr) (fun i _ => l.length - (intOf i).toNat)
  case atStart => exact ⟨0, Nat.zero_le _, rfl, Below.refl _ _⟩
  case round =>
    obtain ⟨k, hk, rfl, hb⟩ := hrel
    have hsz := hb.size
    by_cases hlt : k < l.length
    · obtain ⟨b, off, B, d, B2, d2, rfl, hbl, hc1, hc2, hc3, hpa, hpb⟩ := (h1.below hb) k l[k] (List.getElem?_eq_getElem hlt)
      obtain ⟨b', off', B', d', B2', d2', rfl, hbl', hc1', hc2', hc3', hpa', hpb'⟩ := (h2.below hb) k l[k] (List.getElem?_eq_getElem hlt)
      obtain ⟨hx, hx2⟩ := HP.out _ (List.getElem_mem hlt)
      generalize l[k] = x at *
      have hz : (0 : Int) ≤ k := by omega
      have hz2 : (k : Int) < l.length := by omega
      have HA := hide hpa
      have HA' := hide hpa'
      have HB := hide hpb
      have HB' := hide hpb'
      clear hpa hpa' hpb hpb'
      go_wp2_with fail
      go_region_held3 (fun W => (W.cell? ⟨b, off + k * 3, none⟩ = some (.int .i64 x.avoid) ∧ W.cell? ⟨b, off + k * 3 + 1, none⟩ = some (.slice B x.dishes.length d) ∧ W.cell? ⟨b, off + k * 3 + 2, none⟩ = some (.slice B2 x.of.length d2)) ∧
          (W.cell? ⟨b', off' + k * 3, none⟩ = some (.int .i64 x.avoid) ∧ W.cell? ⟨b', off' + k * 3 + 1, none⟩ = some (.slice B' x.dishes.length d') ∧ W.cell? ⟨b', off' + k * 3 + 2, none⟩ = some (.slice B2' x.of.length d2')) ∧ Below w.heap.size w W)
        (first | exact ⟨⟨hc1, hc2, hc3⟩, ⟨hc1', hc2', hc3'⟩, hb.drew⟩ | exact ⟨⟨(hB.cell hbl).trans hc1, (hB.cell hbl).trans hc2, (hB.cell hbl).trans hc3⟩, ⟨(hB.cell hbl').trans hc1', (hB.cell hbl').trans hc2', (hB.cell hbl').trans hc3'⟩, hb.drew.trans (hB.mono hsz)⟩)
        (first | (go_at_call 81; refine (eqTable_same _ _ _ _ _ _ _ _ _ _ _ wr.drew (id HA.out) (id HA'.out) (id HB.out) (id HB'.out) hx hx2).mono ?_; rintro e W' ⟨rfl, hB⟩))
      have hb2 : Below w.heap.size w W' := hb.drew.trans (hB.mono hsz)
      have hsz2 := hb2.size
      go_wp2_with fail
      go_roundw
      case rel => exact ⟨k + 1, hlt, by go_num, by go_grown⟩
      case measure => simp [intOf]; omega
    · go_wp2_with fail
      go_ret
      exact ⟨rfl, by go_grown⟩

theorem szTable_any (A B : Option Addr) (c d n m : Nat) (y left : Int) (w : World) (h0 : 0 ≤ left) (h1 : left ≤ 1048576) (hl : n ≤ 9223372036854775807) (hm : m ≤ 9223372036854775807) :
    Calls Tryd.prog 63 #[.agg #[.int .i64 y, .slice A n c, .slice B m d], .int .i64 left] w fun e w' => e = .returned (.int .i64 (szPl left n m)) ∧ Below w.heap.size w w' := by
  have hr := szP_range left n h1
  by_cases h : szP left n < 0
  · have h' : Hid (szPl left n m = -1) := by unfold szPl; rw [if_pos h]; exact hide rfl
    go_enter Tryd.func63, Tryd.ntmps63
    go_wp2_with fail
    refine (szOrderS_any _ _ _ _ _ h0 h1 hl).mono ?_
    rintro e w' ⟨rfl, rfl⟩
    go_wp2_with fail
    go_ret
    exact ⟨by rw [h'.out]; rfl, by go_grown⟩
  · have h' : Hid (szPl left n m = szP (szP left n) m) := by unfold szPl; rw [if_neg h]; exact hide rfl
    by_cases h2 : szP (szP left n) m < 0
    · have h3 := szP_neg h2
      go_enter Tryd.func63, Tryd.ntmps63
      go_wp2_with fail
      refine (szOrderS_any _ _ _ _ _ h0 h1 hl).mono ?_
      rintro e w' ⟨rfl, rfl⟩
      go_wp2_with fail
      refine (szIntS_any _ _ _ _ _ (by omega) (by omega) hm).mono ?_
      rintro e w' ⟨rfl, rfl⟩
      go_wp2_with fail
      go_ret
      exact ⟨by rw [h'.out, h3]; rfl, by go_grown⟩
    · go_enter Tryd.func63, Tryd.ntmps63
      go_wp2_with fail
      refine (szOrderS_any _ _ _ _ _ h0 h1 hl).mono ?_
      rintro e w' ⟨rfl, rfl⟩
      go_wp2_with fail
      refine (szIntS_any _ _ _ _ _ (by omega) (by omega) hm).mono ?_
      rintro e w' ⟨rfl, rfl⟩
      go_wp2_with fail
      go_ret
      exact ⟨by rw [h'.out]; rfl, by go_grown⟩

/-- What a list of tables takes of a measure. -/
def szTblGo : Int → List Tbl → Int
  | left, [] => left
  | left, x :: r => if szPl left x.dishes.length x.of.length < 0 then -1 else szTblGo (szPl left x.dishes.length x.of.length) r
def szTbls (left : Int) (l : List Tbl) : Int := if left - l.length < 0 then -1 else szTblGo (left - l.length) l

theorem szTblGo_le : ∀ (l : List Tbl) (left : Int), left ≤ 1048576 → ¬ szTblGo left l < 0 → ∀ x ∈ l, TblLe 1048576 x
  | [], _, _, _, x, hx => by cases hx
  | y :: r, left, h1, h, x, hx => by
    rw [szTblGo] at h
    split at h
    · omega
    · rename_i hn
      have hr := szPl_range left y.dishes.length y.of.length h1
      rcases List.mem_cons.1 hx with rfl | hx
      · exact szPl_le h1 hn
      · exact szTblGo_le r _ hr.2 h x hx
theorem szTbls_le {left : Int} {l : List Tbl} (h1 : left ≤ 1048576) (h : ¬ szTbls left l < 0) : l.length ≤ 1048576 ∧ ∀ x ∈ l, TblLe 1048576 x := by
  unfold szTbls at h
  split at h
  · omega
  · exact ⟨by omega, szTblGo_le l _ (by omega) h⟩
theorem szTblGo_neg : ∀ (l : List Tbl) (left : Int), 0 ≤ left → szTblGo left l < 0 → szTblGo left l = -1
  | [], left, h0, h => by rw [szTblGo] at h; omega
  | y :: r, left, h0, h => by
    rw [szTblGo] at h ⊢
    split at h
    · rename_i hn; rw [if_pos hn]
    · rename_i hn; rw [if_neg hn]; exact szTblGo_neg r _ (by omega) h

set_option maxHeartbeats 800000 in
theorem szTableS_any (A : Option Addr) (c : Nat) (l : List Tbl) (left0 : Int) (w : World) (hA : TblsAt w A l) (h0 : 0 ≤ left0) (h1 : left0 ≤ 1048576) (hl : l.length ≤ 9223372036854775807) (hp : ∀ x ∈ l, TblLe 9223372036854775807 x) :
    Calls Tryd.prog 31 #[.slice A l.length c, .int .i64 left0] w fun e w' => e = .returned (.int .i64 (szTbls left0 l)) ∧ Below w.heap.size w w' := by
  by_cases h : left0 - l.length < 0
  · have HR : Hid (szTbls left0 l = -1) := by unfold szTbls; rw [if_pos h]; exact hide rfl
    clear hp
    go_enter Tryd.func31, Tryd.ntmps31
    go_wp2_with fail
    go_ret
    exact ⟨by rw [HR.out]; rfl, by go_grown⟩
  · have HR : Hid (szTbls left0 l = szTblGo (left0 - l.length) (l.drop 0)) := by unfold szTbls; rw [if_neg h]; exact hide rfl
    have HP := hide hp
    clear hp
    go_enter Tryd.func31, Tryd.ntmps31
    go_wp2_with fail
    go_loopw [1, 5] (fun lf i wr => ∃ (k : Nat) (left : Int), k ≤ l.length ∧ i = .int .i64 k ∧ lf = .int .i64 left ∧ 0 ≤ left ∧ left ≤ 1048576 ∧ Hid (szTbls left0 l = szTblGo left (l.drop k)) ∧ Below w.heap.size w wr) (fun _ i _ => l.length - (intOf i).toNat)
    case atStart => exact ⟨0, _, Nat.zero_le _, rfl, rfl, by omega, by omega, HR, Below.refl _ _⟩
    case round =>
      obtain ⟨k, left, hk, rfl, rfl, hl0, hl1, HG, hb⟩ := hrel
      have hsz := hb.size
      by_cases hlt : k < l.length
      · obtain ⟨b, off, A', c', B', d', rfl, hbl, hc1, hc2, hc3, -, -⟩ := (hA.below hb) k l[k] (List.getElem?_eq_getElem hlt)
        have HD : Hid (l.drop k = l[k] :: l.drop (k + 1)) := hide (List.drop_eq_getElem_cons hlt)
        obtain ⟨hx, hx2⟩ := HP.out _ (List.getElem_mem hlt)
        generalize l[k] = x at *
        have hz : (0 : Int) ≤ k := by omega
        have hz2 : (k : Int) < l.length := by omega
        have hr := szPl_range left x.dishes.length x.of.length hl1
        by_cases h2 : szPl left x.dishes.length x.of.length < 0
        · have H3 : Hid (szTbls left0 l = -1) := hide (by rw [HG.out, HD.out, szTblGo, if_pos h2])
          go_wp2_with fail
          refine (szTable_any _ _ _ _ _ _ _ _ _ hl0 hl1 hx hx2).mono ?_
          rintro e w' ⟨rfl, hB⟩
          have hb2 : Below w.heap.size w w' := next hb hB
          go_wp2_with fail
          go_ret
          exact ⟨by rw [H3.out]; rfl, by go_grown⟩
        · have H3 : Hid (szTbls left0 l = szTblGo (szPl left x.dishes.length x.of.length) (l.drop (k + 1))) := hide (by rw [HG.out, HD.out, szTblGo, if_neg h2])
          go_wp2_with fail
          refine (szTable_any _ _ _ _ _ _ _ _ _ hl0 hl1 hx hx2).mono ?_
          rintro e w' ⟨rfl, hB⟩
          have hb2 : Below w.heap.size w w' := next hb hB
          go_wp2_with fail
          go_roundw
          case rel => exact ⟨k + 1, _, hlt, by go_num, rfl, by omega, by omega, H3, by go_grown⟩
          case measure => simp [intOf]; omega
      · have H3 : Hid (szTbls left0 l = left) := by rw [HG.out, List.drop_of_length_le (by omega)]; exact hide rfl
        go_wp2_with fail
        go_ret
        exact ⟨by rw [H3.out]; rfl, by go_grown⟩

section
variable {H : Type} {enc : TypeId × Value → H} {w : World} {base : Nat} {spare : Nat → Bool} {held : Bool}

theorem tbl_cells {fuel : Nat} {cs : List Value} {x : DataW H × List MemPlace} (h : DataW.trod enc Tryd.prog w base spare held fuel 111 cs = some x) :
    ∃ (y : Int) (A : Option Addr) (c : Nat) (ds : List Order) (B : Option Addr) (d : Nat) (ps : List Int), cs[0]? = some (.int .i64 y) ∧ cs[1]? = some (.slice A ds.length c) ∧ cs[2]? = some (.slice B ps.length d) ∧ OrdersAt w A ds ∧ IntsAt w B ps ∧ ds.length ≤ 9223372036854775807 ∧ ps.length ≤ 9223372036854775807 := by
  obtain ⟨xs, n, _, _, _, hlen, hf⟩ := DataW.trod_struct Tryd.underlying111 h
  have hx : xs.length = 3 := hlen
  have f0 : DataW.trod enc Tryd.prog w base spare held n 3 ((cs.drop 0).take (Tryd.prog.cellsOf 3)) = xs[0]? := hf 0 _ rfl
  have f1 : DataW.trod enc Tryd.prog w base spare held n 109 ((cs.drop 1).take (Tryd.prog.cellsOf 109)) = xs[1]? := hf 1 _ rfl
  have f2 : DataW.trod enc Tryd.prog w base spare held n 23 ((cs.drop 2).take (Tryd.prog.cellsOf 23)) = xs[2]? := hf 2 _ rfl
  simp only [show Tryd.prog.cellsOf 3 = 1 from by kernel_rfl, show Tryd.prog.cellsOf 23 = 1 from by kernel_rfl, show Tryd.prog.cellsOf 109 = 1 from by kernel_rfl] at f0 f1 f2
  rw [List.getElem?_eq_getElem (by omega)] at f0 f1 f2
  obtain ⟨y, hy, _⟩ := DataW.trod_int Tryd.underlying3 f0
  obtain ⟨A, c, ds, hds, hda, hdl⟩ := open_orders f1
  obtain ⟨B, d, ps, hps, hpa, hpl⟩ := open_numbers f2
  have g : ∀ (o : Nat) (v : Value), (cs.drop o).take 1 = [v] → cs[o]? = some v := fun o v h => by
    have : ((cs.drop o).take 1)[0]? = some v := by rw [h]; rfl
    simpa [List.getElem?_take, List.getElem?_drop] using this
  exact ⟨y, A, c, ds, B, d, ps, g 0 _ hy, g 1 _ hds, g 2 _ hps, hda, hpa, hdl, hpl⟩

theorem open_tbls {fuel : Nat} {cs : List Value} {x : DataW H × List MemPlace} (h : DataW.trod enc Tryd.prog w base spare held fuel 24 cs = some x) :
    ∃ A c l, cs = [.slice A l.length c] ∧ TblsAt w A l ∧ l.length ≤ 9223372036854775807 ∧ ∀ x ∈ l, TblLe 9223372036854775807 x := by
  rcases open_slice Tryd.underlying24 h with ⟨rfl, _⟩ | ⟨a, len, cap, m, n, D, Pl, rfl, _, hl, hm, hmm, _, hi⟩
  · exact ⟨none, 0, [], rfl, fun i p hp => by simp at hp, by simp, by simp⟩
  · have hlm : len ≤ m := by rw [hmm]; split <;> omega
    have hcells : Tryd.prog.cellsOf 111 = 3 := by kernel_rfl
    rw [hcells] at hi
    obtain ⟨f, hf⟩ := choose_lt (α := Tbl) (n := len) (p := fun i x => w.cell? (a.add (i * 3)) = some (.int .i64 x.avoid) ∧ (∃ A c, w.cell? (a.add (i * 3 + 1)) = some (.slice A x.dishes.length c) ∧ OrdersAt w A x.dishes) ∧ (∃ B d, w.cell? (a.add (i * 3 + 2)) = some (.slice B x.of.length d) ∧ IntsAt w B x.of) ∧ TblLe 9223372036854775807 x) (fun i hil => by
      obtain ⟨cs', hc, ht⟩ := hi i (by omega)
      obtain ⟨_, _, hat⟩ := World.cells?_some hc
      obtain ⟨y, A, c, ds, B, d, ps, h0, h1, h2, hda, hpa, hdl, hpl⟩ := tbl_cells ht
      have e0 := hat 0 (by omega)
      have e1 := hat 1 (by omega)
      have e2 := hat 2 (by omega)
      rw [Go.Deep.add_add, h0] at e0
      rw [Go.Deep.add_add, h1] at e1
      rw [Go.Deep.add_add, h2] at e2
      exact ⟨⟨y, ds, ps⟩, e0, ⟨A, c, e1, hda⟩, ⟨B, d, e2, hpa⟩, hdl, hpl⟩)
    refine ⟨some a, cap, (List.range len).map f, by simp, fun i p hp => ?_, by simp only [List.length_map, List.length_range]; unfold maxLen at hm; omega, fun x hx => ?_⟩
    · have hil : i < len := by have := (List.getElem?_eq_some_iff.1 hp).1; simpa using this
      have hpe : f i = p := by simpa [hil] using hp
      obtain ⟨g0, ⟨A, c, g1, gp⟩, ⟨B, d, g2, gq⟩, _⟩ := hf i hil
      rw [hpe] at g0 g1 gp g2 gq
      obtain ⟨b, off, rfl, hadd⟩ := addr_of (hf 0 (by omega)).1
      rw [hadd] at g0 g1 g2
      exact ⟨b, off, A, c, B, d, rfl, (cell_lt g0).1, g0, by rw [Nat.add_assoc]; exact g1, by rw [Nat.add_assoc]; exact g2, gp, gq⟩
    · obtain ⟨i, hi, rfl⟩ := List.mem_map.1 hx
      exact (hf i (by simpa using hi)).2.2.2
end
end Go.Proofs.YtmepnilnlpoodaaDoor
