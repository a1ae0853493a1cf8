/- Houses: contracts of the helpers that measure, copy and compare them, and their reading among a row's arguments.
   Conditions: the bounds in each statement. -/
import Derived.Test.YtmepnilnlpoodaaDoorTblMem
import Derived.Test.YtmepnilnlpoodaaDoorExKit
namespace Go.Proofs.YtmepnilnlpoodaaDoor
open Go.RowKit Go.ChangeShapes Go.WideShapes Go.ChangeAt Go.Deep

structure Hse where
  items : List Item
  prices : List Int
  stock : List Int
  cash : Int
  tables : List Tbl

/-- What a house's rows hold. -/
structure HseAt (w : World) (A B C D : Option Addr) (h : Hse) : Prop where
  items : ItemsAt w A h.items
  prices : IntsAt w B h.prices
  stock : IntsAt w C h.stock
  tables : TblsAt w D h.tables
theorem HseAt.below {w w' : World} {A B C D : Option Addr} {h : Hse} (x : HseAt w A B C D h) (hb : Below w.heap.size w w') : HseAt w' A B C D h := ⟨x.items.below hb, x.prices.below hb, x.stock.below hb, x.tables.below hb⟩
/-- How long a house's rows are at most. -/
structure HseLe (m : Nat) (h : Hse) : Prop where
  items : h.items.length ≤ m
  parts : ∀ x ∈ h.items, x.parts.length ≤ m
  prices : h.prices.length ≤ m
  stock : h.stock.length ≤ m
  tables : h.tables.length ≤ m
  rows : ∀ x ∈ h.tables, TblLe m x
/-- A house as a value. -/
abbrev hseV (A : Option Addr) (a : Nat) (B : Option Addr) (b : Nat) (C : Option Addr) (c : Nat) (D : Option Addr) (d : Nat) (h : Hse) : Value :=
  .agg #[.slice A h.items.length a, .slice B h.prices.length b, .slice C h.stock.length c, .int .i64 h.cash, .slice D h.tables.length d]
/-- A house's own rows. -/
structure OwnHse (w : World) (gA gB gC gD : Nat) (h : Hse) : Prop where
  items : OwnItems w gA h.items
  prices : OwnInts w gB h.prices
  stock : OwnInts w gC h.stock
  tables : OwnTbls w gD h.tables
theorem OwnHse.below {w w' : World} {gA gB gC gD : Nat} {h : Hse} (x : OwnHse w gA gB gC gD h) (hb : Below w.heap.size w w') : OwnHse w' gA gB gC gD h := ⟨x.items.below hb, x.prices.below hb, x.stock.below hb, x.tables.below hb⟩
theorem OwnHse.at_ {w : World} {gA gB gC gD : Nat} {h : Hse} (x : OwnHse w gA gB gC gD h) : HseAt w (some ⟨gA, 0, none⟩) (some ⟨gB, 0, none⟩) (some ⟨gC, 0, none⟩) (some ⟨gD, 0, none⟩) h := ⟨x.items.at_, x.prices.at_, x.stock.at_, x.tables.at_⟩

theorem five_cells {W : World} {X : Nat} {t : TypeId} {a b c d e : Value} (h : W.heap[X]? = some (.cells #[a, b, c, d, e] t (0, 0))) :
    W.cell? ⟨X, 0, none⟩ = some a ∧ W.cell? ⟨X, 1, none⟩ = some b ∧ W.cell? ⟨X, 2, none⟩ = some c ∧ W.cell? ⟨X, 3, none⟩ = some d ∧ W.cell? ⟨X, 4, none⟩ = some e :=
  ⟨by rw [cell_of_row _ _ 0 _ _ _ h]; rfl, by rw [cell_of_row _ _ 1 _ _ _ h]; rfl, by rw [cell_of_row _ _ 2 _ _ _ h]; rfl, by rw [cell_of_row _ _ 3 _ _ _ h]; rfl, by rw [cell_of_row _ _ 4 _ _ _ h]; rfl⟩
theorem put_five {W : World} {X : Nat} {t : TypeId} {a b c d e u v x y z : Value} (h : W.heap[X]? = some (.cells #[a, b, c, d, e] t (0, 0))) :
    (((((W.setCell ⟨X, 0, none⟩ u).setCell ⟨X, 1, none⟩ v).setCell ⟨X, 2, none⟩ x).setCell ⟨X, 3, none⟩ y).setCell ⟨X, 4, none⟩ z).heap[X]? = some (.cells #[u, v, x, y, z] t (0, 0)) := by
  rw [heap_setCell_same _ X 4 _ _ _ (heap_setCell_same _ X 3 _ _ _ (heap_setCell_same _ X 2 _ _ _ (heap_setCell_same _ X 1 _ _ _ (heap_setCell_same _ X 0 _ _ _ h))))]
  rfl
theorem below_five {W w : World} {X : Nat} {b : Nat} {u v x y z : Value} (h : Below b w W) (hX : b ≤ X) : Below b w (((((W.setCell ⟨X, 0, none⟩ u).setCell ⟨X, 1, none⟩ v).setCell ⟨X, 2, none⟩ x).setCell ⟨X, 3, none⟩ y).setCell ⟨X, 4, none⟩ z) :=
  ((((h.setCell hX _).setCell hX _).setCell hX _).setCell hX _).setCell hX _
theorem heap_ltH {w : World} {X : Nat} {o : Obj} (h : w.heap[X]? = some o) : X < w.heap.size := (Array.getElem?_eq_some_iff.1 h).1
/-- A store below all of a list's rows. -/
theorem OwnItems.far {w : World} {g : Nat} {xs : List Item} (h : OwnItems w g xs) {a : Addr} (ha : a.block < g) (v : Value) : OwnItems (w.setCell a v) g xs := by
  obtain ⟨G, h1, h2⟩ := h
  exact ⟨G, World.rowIs.setOther h1 (by omega) v, fun i x hx => ⟨(h2 i x hx).1, OwnParts.far (h2 i x hx).2 (by have := (h2 i x hx).1; omega) v⟩⟩
theorem OwnTbls.far {w : World} {g : Nat} {xs : List Tbl} (h : OwnTbls w g xs) {a : Addr} (ha : a.block < g) (v : Value) : OwnTbls (w.setCell a v) g xs := by
  obtain ⟨G, H, h1, h2⟩ := h
  exact ⟨G, H, World.rowIs.setOther h1 (by omega) v, fun i x hx => ⟨(h2 i x hx).1, (h2 i x hx).2.1, (h2 i x hx).2.2.1.far (by have := (h2 i x hx).1; omega) v, (h2 i x hx).2.2.2.far (by have := (h2 i x hx).2.1; omega) v⟩⟩

set_option maxRecDepth 100000 in
set_option maxHeartbeats 4000000 in
theorem toHouse_any (A B C D : Option Addr) (a b c d : Nat) (h : Hse) (w : World) (hA : HseAt w A B C D h) (hl : HseLe 1048576 h) :
    Calls Tryd.prog 10 #[hseV A a B b C c D d h] w fun e w' => ∃ gA gB gC gD, e = .returned (hseV (some ⟨gA, 0, none⟩) h.items.length (some ⟨gB, 0, none⟩) h.prices.length (some ⟨gC, 0, none⟩) h.stock.length (some ⟨gD, 0, none⟩) h.tables.length h) ∧
      w.heap.size < gA ∧ w.heap.size < gB ∧ w.heap.size < gC ∧ w.heap.size < gD ∧ OwnHse w' gA gB gC gD h ∧ Below w.heap.size w w' := by
  have HL := hide hl
  have HA := hide hA
  clear hl hA
  have hba : Below w.heap.size w (((w.alloc (.cells #[.slice A h.items.length a, .slice B h.prices.length b, .slice C h.stock.length c, .int .i64 h.cash, .slice D h.tables.length d] 26)).alloc (.cells #[.slice none 0 0, .slice none 0 0, .slice none 0 0, .int .i64 0, .slice none 0 0] 33)).alloc (.cells #[.slice none 0 0, .slice none 0 0, .slice none 0 0, .int .i64 0, .slice none 0 0] 33)) := by go_grown
  obtain ⟨hx0, hx1, hx2⟩ := three_new w (.cells #[.slice A h.items.length a, .slice B h.prices.length b, .slice C h.stock.length c, .int .i64 h.cash, .slice D h.tables.length d] 26) (.cells #[.slice none 0 0, .slice none 0 0, .slice none 0 0, .int .i64 0, .slice none 0 0] 33) (.cells #[.slice none 0 0, .slice none 0 0, .slice none 0 0, .int .i64 0, .slice none 0 0] 33)
  go_enter Tryd.func10, Tryd.ntmps10
  go_upto_region 2 with fail
  obtain ⟨V0, hV0⟩ : ∃ V0, (((w.alloc (.cells #[.slice A h.items.length a, .slice B h.prices.length b, .slice C h.stock.length c, .int .i64 h.cash, .slice D h.tables.length d] 26)).alloc (.cells #[.slice none 0 0, .slice none 0 0, .slice none 0 0, .int .i64 0, .slice none 0 0] 33)).alloc (.cells #[.slice none 0 0, .slice none 0 0, .slice none 0 0, .int .i64 0, .slice none 0 0] 33)) = V0 := ⟨_, rfl⟩
  rw [hV0] at hba hx0 hx1 hx2 ⊢
  clear hV0
  have pc0 : V0.cell? ⟨w.heap.size, 0, none⟩ = some (.slice A h.items.length a) := by rw [cell_of_row _ _ 0 _ _ _ hx0]; rfl
  have hs0 := heap_ltH hx2
  go_wp2_with fail
  refine (toItemS_any _ _ _ _ (HA.out.items.below hba) HL.out.items HL.out.parts).mono ?_
  rintro e U0 ⟨rfl, hO0, hB0⟩
  have hbu0 := next hba hB0
  have hy0 := (hB0.block w.heap.size (by omega)).trans hx0
  have hy1 := (hB0.block (w.heap.size + 1) (by omega)).trans hx1
  have hy2 := (hB0.block (w.heap.size + 1 + 1) hs0).trans hx2
  have hz0 := hB0.size
  clear pc0 hx0 hx1 hx2
  have d0 : U0.cell? ⟨w.heap.size + 1 + 1, 0, none⟩ = some (.slice none 0 0) := by rw [cell_of_row _ _ 0 _ _ _ hy2]; rfl
  have d1 := frozen_of_row U0 (w.heap.size + 1 + 1) 0 _ _ hy2
  go_upto_region 3 with fail
  obtain ⟨V1, hW⟩ : ∃ V1, U0.setCell ⟨w.heap.size + 1 + 1, 0, none⟩ (.slice (some ⟨V0.heap.size, 0, none⟩) h.items.length h.items.length) = V1 := ⟨_, rfl⟩
  have hb0v : Below w.heap.size w V1 := by rw [← hW]; exact hbu0.setCell (p := ⟨w.heap.size + 1 + 1, 0, none⟩) (by simp; omega) _
  have hx0 : V1.heap[w.heap.size]? = some (.cells #[.slice A h.items.length a, .slice B h.prices.length b, .slice C h.stock.length c, .int .i64 h.cash, .slice D h.tables.length d] 26 (0, 0)) := by rw [← hW, heap_setCell_other _ ⟨w.heap.size + 1 + 1, 0, none⟩ _ _ (by simp; omega)]; exact hy0
  have hx1 : V1.heap[w.heap.size + 1]? = some (.cells #[.slice none 0 0, .slice none 0 0, .slice none 0 0, .int .i64 0, .slice none 0 0] 33 (0, 0)) := by rw [← hW, heap_setCell_other _ ⟨w.heap.size + 1 + 1, 0, none⟩ _ _ (by simp)]; exact hy1
  have hx2 : V1.heap[w.heap.size + 1 + 1]? = some (.cells #[.slice (some ⟨V0.heap.size, 0, none⟩) h.items.length h.items.length, .slice none 0 0, .slice none 0 0, .int .i64 0, .slice none 0 0] 33 (0, 0)) := by rw [← hW, heap_setCell_same _ (w.heap.size + 1 + 1) 0 _ _ _ hy2]; rfl
  have ho0 : OwnItems V1 V0.heap.size h.items := by rw [← hW]; exact hO0.far (by simp; omega) _
  have hv0 : U0.heap.size = V1.heap.size := by rw [← hW]; simp
  rw [hW]
  clear hW d0 d1 hy0 hy1 hy2 hO0 hB0 hbu0 hba
  have pc1 : V1.cell? ⟨w.heap.size, 1, none⟩ = some (.slice B h.prices.length b) := by rw [cell_of_row _ _ 1 _ _ _ hx0]; rfl
  have hs1 := heap_ltH hx2
  go_wp2_with fail
  refine (toIntS_any _ _ _ _ (HA.out.prices.below hb0v) HL.out.prices).mono ?_
  rintro e U1 ⟨rfl, hO1, hB1⟩
  have hbu1 := next hb0v hB1
  have hy0 := (hB1.block w.heap.size (by omega)).trans hx0
  have hy1 := (hB1.block (w.heap.size + 1) (by omega)).trans hx1
  have hy2 := (hB1.block (w.heap.size + 1 + 1) hs1).trans hx2
  have ho0u := ho0.below hB1
  have hz1 := hB1.size
  clear pc1 hx0 hx1 hx2 ho0
  have d0 : U1.cell? ⟨w.heap.size + 1 + 1, 1, none⟩ = some (.slice none 0 0) := by rw [cell_of_row _ _ 1 _ _ _ hy2]; rfl
  have d1 := frozen_of_row U1 (w.heap.size + 1 + 1) 1 _ _ hy2
  go_upto_region 4 with fail
  obtain ⟨V2, hW⟩ : ∃ V2, U1.setCell ⟨w.heap.size + 1 + 1, 1, none⟩ (.slice (some ⟨V1.heap.size, 0, none⟩) h.prices.length h.prices.length) = V2 := ⟨_, rfl⟩
  have hb1v : Below w.heap.size w V2 := by rw [← hW]; exact hbu1.setCell (p := ⟨w.heap.size + 1 + 1, 1, none⟩) (by simp; omega) _
  have hx0 : V2.heap[w.heap.size]? = some (.cells #[.slice A h.items.length a, .slice B h.prices.length b, .slice C h.stock.length c, .int .i64 h.cash, .slice D h.tables.length d] 26 (0, 0)) := by rw [← hW, heap_setCell_other _ ⟨w.heap.size + 1 + 1, 1, none⟩ _ _ (by simp; omega)]; exact hy0
  have hx1 : V2.heap[w.heap.size + 1]? = some (.cells #[.slice none 0 0, .slice none 0 0, .slice none 0 0, .int .i64 0, .slice none 0 0] 33 (0, 0)) := by rw [← hW, heap_setCell_other _ ⟨w.heap.size + 1 + 1, 1, none⟩ _ _ (by simp)]; exact hy1
  have hx2 : V2.heap[w.heap.size + 1 + 1]? = some (.cells #[.slice (some ⟨V0.heap.size, 0, none⟩) h.items.length h.items.length, .slice (some ⟨V1.heap.size, 0, none⟩) h.prices.length h.prices.length, .slice none 0 0, .int .i64 0, .slice none 0 0] 33 (0, 0)) := by rw [← hW, heap_setCell_same _ (w.heap.size + 1 + 1) 1 _ _ _ hy2]; rfl
  have ho0n : OwnItems V2 V0.heap.size h.items := by rw [← hW]; exact ho0u.far (by simp; omega) _
  have ho1 : OwnInts V2 V1.heap.size h.prices := by rw [← hW]; exact hO1.far (by simp; omega) _
  have hv1 : U1.heap.size = V2.heap.size := by rw [← hW]; simp
  rw [hW]
  clear hW d0 d1 hy0 hy1 hy2 hO1 hB1 hbu1 ho0u
  have pc2 : V2.cell? ⟨w.heap.size, 2, none⟩ = some (.slice C h.stock.length c) := by rw [cell_of_row _ _ 2 _ _ _ hx0]; rfl
  have hs2 := heap_ltH hx2
  go_wp2_with fail
  refine (toIntS_any _ _ _ _ (HA.out.stock.below hb1v) HL.out.stock).mono ?_
  rintro e U2 ⟨rfl, hO2, hB2⟩
  have hbu2 := next hb1v hB2
  have hy0 := (hB2.block w.heap.size (by omega)).trans hx0
  have hy1 := (hB2.block (w.heap.size + 1) (by omega)).trans hx1
  have hy2 := (hB2.block (w.heap.size + 1 + 1) hs2).trans hx2
  have ho0nu := ho0n.below hB2
  have ho1u := ho1.below hB2
  have hz2 := hB2.size
  clear pc2 hx0 hx1 hx2 ho0n ho1
  have d0 : U2.cell? ⟨w.heap.size + 1 + 1, 2, none⟩ = some (.slice none 0 0) := by rw [cell_of_row _ _ 2 _ _ _ hy2]; rfl
  have d1 := frozen_of_row U2 (w.heap.size + 1 + 1) 2 _ _ hy2
  go_upto_region 5 with fail
  obtain ⟨V3, hW⟩ : ∃ V3, U2.setCell ⟨w.heap.size + 1 + 1, 2, none⟩ (.slice (some ⟨V2.heap.size, 0, none⟩) h.stock.length h.stock.length) = V3 := ⟨_, rfl⟩
  have hb2v : Below w.heap.size w V3 := by rw [← hW]; exact hbu2.setCell (p := ⟨w.heap.size + 1 + 1, 2, none⟩) (by simp; omega) _
  have hx0 : V3.heap[w.heap.size]? = some (.cells #[.slice A h.items.length a, .slice B h.prices.length b, .slice C h.stock.length c, .int .i64 h.cash, .slice D h.tables.length d] 26 (0, 0)) := by rw [← hW, heap_setCell_other _ ⟨w.heap.size + 1 + 1, 2, none⟩ _ _ (by simp; omega)]; exact hy0
  have hx1 : V3.heap[w.heap.size + 1]? = some (.cells #[.slice none 0 0, .slice none 0 0, .slice none 0 0, .int .i64 0, .slice none 0 0] 33 (0, 0)) := by rw [← hW, heap_setCell_other _ ⟨w.heap.size + 1 + 1, 2, none⟩ _ _ (by simp)]; exact hy1
  have hx2 : V3.heap[w.heap.size + 1 + 1]? = some (.cells #[.slice (some ⟨V0.heap.size, 0, none⟩) h.items.length h.items.length, .slice (some ⟨V1.heap.size, 0, none⟩) h.prices.length h.prices.length, .slice (some ⟨V2.heap.size, 0, none⟩) h.stock.length h.stock.length, .int .i64 0, .slice none 0 0] 33 (0, 0)) := by rw [← hW, heap_setCell_same _ (w.heap.size + 1 + 1) 2 _ _ _ hy2]; rfl
  have ho0nn : OwnItems V3 V0.heap.size h.items := by rw [← hW]; exact ho0nu.far (by simp; omega) _
  have ho1n : OwnInts V3 V1.heap.size h.prices := by rw [← hW]; exact ho1u.far (by simp; omega) _
  have ho2 : OwnInts V3 V2.heap.size h.stock := by rw [← hW]; exact hO2.far (by simp; omega) _
  have hv2 : U2.heap.size = V3.heap.size := by rw [← hW]; simp
  rw [hW]
  clear hW d0 d1 hy0 hy1 hy2 hO2 hB2 hbu2 ho0nu ho1u
  have pc3 : V3.cell? ⟨w.heap.size, 3, none⟩ = some (.int .i64 h.cash) := by rw [cell_of_row _ _ 3 _ _ _ hx0]; rfl
  have hs3 := heap_ltH hx2
  have hy0 := hx0
  have hy1 := hx1
  have hy2 := hx2
  have ho0nnu := ho0nn
  have ho1nu := ho1n
  have ho2u := ho2
  clear hx0 hx1 hx2 ho0nn ho1n ho2
  have d0 : V3.cell? ⟨w.heap.size + 1 + 1, 3, none⟩ = some (.int .i64 0) := by rw [cell_of_row _ _ 3 _ _ _ hy2]; rfl
  have d1 := frozen_of_row V3 (w.heap.size + 1 + 1) 3 _ _ hy2
  go_upto_region 6 with fail
  obtain ⟨V4, hW⟩ : ∃ V4, V3.setCell ⟨w.heap.size + 1 + 1, 3, none⟩ (.int .i64 h.cash) = V4 := ⟨_, rfl⟩
  have hb3v : Below w.heap.size w V4 := by rw [← hW]; exact hb2v.setCell (p := ⟨w.heap.size + 1 + 1, 3, none⟩) (by simp; omega) _
  have hx0 : V4.heap[w.heap.size]? = some (.cells #[.slice A h.items.length a, .slice B h.prices.length b, .slice C h.stock.length c, .int .i64 h.cash, .slice D h.tables.length d] 26 (0, 0)) := by rw [← hW, heap_setCell_other _ ⟨w.heap.size + 1 + 1, 3, none⟩ _ _ (by simp; omega)]; exact hy0
  have hx1 : V4.heap[w.heap.size + 1]? = some (.cells #[.slice none 0 0, .slice none 0 0, .slice none 0 0, .int .i64 0, .slice none 0 0] 33 (0, 0)) := by rw [← hW, heap_setCell_other _ ⟨w.heap.size + 1 + 1, 3, none⟩ _ _ (by simp)]; exact hy1
  have hx2 : V4.heap[w.heap.size + 1 + 1]? = some (.cells #[.slice (some ⟨V0.heap.size, 0, none⟩) h.items.length h.items.length, .slice (some ⟨V1.heap.size, 0, none⟩) h.prices.length h.prices.length, .slice (some ⟨V2.heap.size, 0, none⟩) h.stock.length h.stock.length, .int .i64 h.cash, .slice none 0 0] 33 (0, 0)) := by rw [← hW, heap_setCell_same _ (w.heap.size + 1 + 1) 3 _ _ _ hy2]; rfl
  have ho0nnn : OwnItems V4 V0.heap.size h.items := by rw [← hW]; exact ho0nnu.far (by simp; omega) _
  have ho1nn : OwnInts V4 V1.heap.size h.prices := by rw [← hW]; exact ho1nu.far (by simp; omega) _
  have ho2n : OwnInts V4 V2.heap.size h.stock := by rw [← hW]; exact ho2u.far (by simp; omega) _
  have hv3 : V3.heap.size = V4.heap.size := by rw [← hW]; simp
  rw [hW]
  clear hW d0 d1 hy0 hy1 hy2 pc3 ho0nnu ho1nu ho2u
  have pc4 : V4.cell? ⟨w.heap.size, 4, none⟩ = some (.slice D h.tables.length d) := by rw [cell_of_row _ _ 4 _ _ _ hx0]; rfl
  have hs4 := heap_ltH hx2
  go_wp2_with fail
  refine (toTableS_any _ _ _ _ (HA.out.tables.below hb3v) HL.out.tables HL.out.rows).mono ?_
  rintro e U4 ⟨rfl, hO4, hB4⟩
  have hbu4 := next hb3v hB4
  have hy0 := (hB4.block w.heap.size (by omega)).trans hx0
  have hy1 := (hB4.block (w.heap.size + 1) (by omega)).trans hx1
  have hy2 := (hB4.block (w.heap.size + 1 + 1) hs4).trans hx2
  have ho0nnnu := ho0nnn.below hB4
  have ho1nnu := ho1nn.below hB4
  have ho2nu := ho2n.below hB4
  have hz4 := hB4.size
  clear pc4 hx0 hx1 hx2 ho0nnn ho1nn ho2n
  have d0 : U4.cell? ⟨w.heap.size + 1 + 1, 4, none⟩ = some (.slice none 0 0) := by rw [cell_of_row _ _ 4 _ _ _ hy2]; rfl
  have d1 := frozen_of_row U4 (w.heap.size + 1 + 1) 4 _ _ hy2
  go_upto_region 7 with fail
  obtain ⟨V5, hW⟩ : ∃ V5, U4.setCell ⟨w.heap.size + 1 + 1, 4, none⟩ (.slice (some ⟨V4.heap.size, 0, none⟩) h.tables.length h.tables.length) = V5 := ⟨_, rfl⟩
  have hb4v : Below w.heap.size w V5 := by rw [← hW]; exact hbu4.setCell (p := ⟨w.heap.size + 1 + 1, 4, none⟩) (by simp; omega) _
  have hx0 : V5.heap[w.heap.size]? = some (.cells #[.slice A h.items.length a, .slice B h.prices.length b, .slice C h.stock.length c, .int .i64 h.cash, .slice D h.tables.length d] 26 (0, 0)) := by rw [← hW, heap_setCell_other _ ⟨w.heap.size + 1 + 1, 4, none⟩ _ _ (by simp; omega)]; exact hy0
  have hx1 : V5.heap[w.heap.size + 1]? = some (.cells #[.slice none 0 0, .slice none 0 0, .slice none 0 0, .int .i64 0, .slice none 0 0] 33 (0, 0)) := by rw [← hW, heap_setCell_other _ ⟨w.heap.size + 1 + 1, 4, none⟩ _ _ (by simp)]; exact hy1
  have hx2 : V5.heap[w.heap.size + 1 + 1]? = some (.cells #[.slice (some ⟨V0.heap.size, 0, none⟩) h.items.length h.items.length, .slice (some ⟨V1.heap.size, 0, none⟩) h.prices.length h.prices.length, .slice (some ⟨V2.heap.size, 0, none⟩) h.stock.length h.stock.length, .int .i64 h.cash, .slice (some ⟨V4.heap.size, 0, none⟩) h.tables.length h.tables.length] 33 (0, 0)) := by rw [← hW, heap_setCell_same _ (w.heap.size + 1 + 1) 4 _ _ _ hy2]; rfl
  have ho0nnnn : OwnItems V5 V0.heap.size h.items := by rw [← hW]; exact ho0nnnu.far (by simp; omega) _
  have ho1nnn : OwnInts V5 V1.heap.size h.prices := by rw [← hW]; exact ho1nnu.far (by simp; omega) _
  have ho2nn : OwnInts V5 V2.heap.size h.stock := by rw [← hW]; exact ho2nu.far (by simp; omega) _
  have ho4 : OwnTbls V5 V4.heap.size h.tables := by rw [← hW]; exact hO4.far (by simp; omega) _
  have hv4 : U4.heap.size = V5.heap.size := by rw [← hW]; simp
  rw [hW]
  clear hW d0 d1 hy0 hy1 hy2 hO4 hB4 hbu4 ho0nnnu ho1nnu ho2nu
  obtain ⟨c0, c1, c2, c3, c4⟩ := five_cells hx2
  obtain ⟨e0, e1, e2, e3, e4⟩ := five_cells hx1
  have k0 := frozen_of_row V5 (w.heap.size + 1) 0 _ _ hx1
  have k1 := frozen_of_row V5 (w.heap.size + 1) 1 _ _ hx1
  have k2 := frozen_of_row V5 (w.heap.size + 1) 2 _ _ hx1
  have k3 := frozen_of_row V5 (w.heap.size + 1) 3 _ _ hx1
  have k4 := frozen_of_row V5 (w.heap.size + 1) 4 _ _ hx1
  have HR := hide (five_cells (put_five (u := .slice (some ⟨V0.heap.size, 0, none⟩) h.items.length h.items.length) (v := .slice (some ⟨V1.heap.size, 0, none⟩) h.prices.length h.prices.length) (x := .slice (some ⟨V2.heap.size, 0, none⟩) h.stock.length h.stock.length) (y := .int .i64 h.cash) (z := .slice (some ⟨V4.heap.size, 0, none⟩) h.tables.length h.tables.length) hx1))
  have HB5 := hide (below_five (u := .slice (some ⟨V0.heap.size, 0, none⟩) h.items.length h.items.length) (v := .slice (some ⟨V1.heap.size, 0, none⟩) h.prices.length h.prices.length) (x := .slice (some ⟨V2.heap.size, 0, none⟩) h.stock.length h.stock.length) (y := .int .i64 h.cash) (z := .slice (some ⟨V4.heap.size, 0, none⟩) h.tables.length h.tables.length) (X := w.heap.size + 1) hb4v (by omega))
  have hgs : w.heap.size + 1 < V0.heap.size ∧ w.heap.size + 1 < V1.heap.size ∧ w.heap.size + 1 < V2.heap.size ∧ w.heap.size + 1 < V4.heap.size := by omega
  obtain ⟨hg0, hg1, hg2, hg3⟩ := hgs
  have HO5 : Hid (OwnHse _ V0.heap.size V1.heap.size V2.heap.size V4.heap.size h) := hide ⟨(((((ho0nnnn.far (a := ⟨w.heap.size + 1, 0, none⟩) hg0 (.slice (some ⟨V0.heap.size, 0, none⟩) h.items.length h.items.length)).far (a := ⟨w.heap.size + 1, 1, none⟩) hg0 (.slice (some ⟨V1.heap.size, 0, none⟩) h.prices.length h.prices.length)).far (a := ⟨w.heap.size + 1, 2, none⟩) hg0 (.slice (some ⟨V2.heap.size, 0, none⟩) h.stock.length h.stock.length)).far (a := ⟨w.heap.size + 1, 3, none⟩) hg0 (.int .i64 h.cash)).far (a := ⟨w.heap.size + 1, 4, none⟩) hg0 (.slice (some ⟨V4.heap.size, 0, none⟩) h.tables.length h.tables.length)), (((((ho1nnn.far (a := ⟨w.heap.size + 1, 0, none⟩) (show V1.heap.size ≠ w.heap.size + 1 by omega) (.slice (some ⟨V0.heap.size, 0, none⟩) h.items.length h.items.length)).far (a := ⟨w.heap.size + 1, 1, none⟩) (show V1.heap.size ≠ w.heap.size + 1 by omega) (.slice (some ⟨V1.heap.size, 0, none⟩) h.prices.length h.prices.length)).far (a := ⟨w.heap.size + 1, 2, none⟩) (show V1.heap.size ≠ w.heap.size + 1 by omega) (.slice (some ⟨V2.heap.size, 0, none⟩) h.stock.length h.stock.length)).far (a := ⟨w.heap.size + 1, 3, none⟩) (show V1.heap.size ≠ w.heap.size + 1 by omega) (.int .i64 h.cash)).far (a := ⟨w.heap.size + 1, 4, none⟩) (show V1.heap.size ≠ w.heap.size + 1 by omega) (.slice (some ⟨V4.heap.size, 0, none⟩) h.tables.length h.tables.length)), (((((ho2nn.far (a := ⟨w.heap.size + 1, 0, none⟩) (show V2.heap.size ≠ w.heap.size + 1 by omega) (.slice (some ⟨V0.heap.size, 0, none⟩) h.items.length h.items.length)).far (a := ⟨w.heap.size + 1, 1, none⟩) (show V2.heap.size ≠ w.heap.size + 1 by omega) (.slice (some ⟨V1.heap.size, 0, none⟩) h.prices.length h.prices.length)).far (a := ⟨w.heap.size + 1, 2, none⟩) (show V2.heap.size ≠ w.heap.size + 1 by omega) (.slice (some ⟨V2.heap.size, 0, none⟩) h.stock.length h.stock.length)).far (a := ⟨w.heap.size + 1, 3, none⟩) (show V2.heap.size ≠ w.heap.size + 1 by omega) (.int .i64 h.cash)).far (a := ⟨w.heap.size + 1, 4, none⟩) (show V2.heap.size ≠ w.heap.size + 1 by omega) (.slice (some ⟨V4.heap.size, 0, none⟩) h.tables.length h.tables.length)), (((((ho4.far (a := ⟨w.heap.size + 1, 0, none⟩) hg3 (.slice (some ⟨V0.heap.size, 0, none⟩) h.items.length h.items.length)).far (a := ⟨w.heap.size + 1, 1, none⟩) hg3 (.slice (some ⟨V1.heap.size, 0, none⟩) h.prices.length h.prices.length)).far (a := ⟨w.heap.size + 1, 2, none⟩) hg3 (.slice (some ⟨V2.heap.size, 0, none⟩) h.stock.length h.stock.length)).far (a := ⟨w.heap.size + 1, 3, none⟩) hg3 (.int .i64 h.cash)).far (a := ⟨w.heap.size + 1, 4, none⟩) hg3 (.slice (some ⟨V4.heap.size, 0, none⟩) h.tables.length h.tables.length))⟩
  have HG := hide (show w.heap.size < V0.heap.size ∧ w.heap.size < V1.heap.size ∧ w.heap.size < V2.heap.size ∧ w.heap.size < V4.heap.size by omega)
  clear hx0 hx1 hx2 hg0 hg1 hg2 hg3 ho0nnnn ho1nnn ho2nn ho4 hb4v
  go_wp2_with fail
  obtain ⟨f0, f1, f2, f3, f4⟩ := HR.out
  obtain ⟨q0, q1, q2, q3⟩ := HG.out
  exact bodyPost_ret (v := hseV (some ⟨V0.heap.size, 0, none⟩) h.items.length (some ⟨V1.heap.size, 0, none⟩) h.prices.length (some ⟨V2.heap.size, 0, none⟩) h.stock.length (some ⟨V4.heap.size, 0, none⟩) h.tables.length h) (by simp [results, Tryd.results10, go_sem, f0, f1, f2, f3, f4]) rfl ⟨_, _, _, _, rfl, q0, q1, q2, q3, HO5.out, HB5.out⟩

set_option maxRecDepth 100000 in
set_option maxHeartbeats 4000000 in
theorem eqHouse_same (A B C D A' B' C' D' : Option Addr) (a b c d a' b' c' d' : Nat) (h : Hse) (w : World) (hA : HseAt w A B C D h) (hA' : HseAt w A' B' C' D' h) (hl : HseLe 1048576 h) :
    Calls Tryd.prog 13 #[hseV A a B b C c D d h, hseV A' a' B' b' C' c' D' d' h] w fun e w' => e = .returned (.bool true) ∧ Below w.heap.size w w' := by
  have HL := hide hl
  have HA := hide hA
  have HA' := hide hA'
  have hy : (h.cash != h.cash) = false := by simp
  clear hl hA hA' 
  have hb0 : Below w.heap.size w ((w.alloc (.cells #[.slice A h.items.length a, .slice B h.prices.length b, .slice C h.stock.length c, .int .i64 h.cash, .slice D h.tables.length d] 33)).alloc (.cells #[.slice A' h.items.length a', .slice B' h.prices.length b', .slice C' h.stock.length c', .int .i64 h.cash, .slice D' h.tables.length d'] 33)) := by go_grown
  have hx0 := (heap_alloc_old (w.alloc (.cells #[.slice A h.items.length a, .slice B h.prices.length b, .slice C h.stock.length c, .int .i64 h.cash, .slice D h.tables.length d] 33)) (.cells #[.slice A' h.items.length a', .slice B' h.prices.length b', .slice C' h.stock.length c', .int .i64 h.cash, .slice D' h.tables.length d'] 33) (by simp : w.heap.size < _)).trans (heap_alloc_new w _)
  have hx1 : ((w.alloc (.cells #[.slice A h.items.length a, .slice B h.prices.length b, .slice C h.stock.length c, .int .i64 h.cash, .slice D h.tables.length d] 33)).alloc (.cells #[.slice A' h.items.length a', .slice B' h.prices.length b', .slice C' h.stock.length c', .int .i64 h.cash, .slice D' h.tables.length d'] 33)).heap[w.heap.size + 1]? = some (.cells #[.slice A' h.items.length a', .slice B' h.prices.length b', .slice C' h.stock.length c', .int .i64 h.cash, .slice D' h.tables.length d'] 33 (0, 0)) := by
    have := heap_alloc_new (w.alloc (.cells #[.slice A h.items.length a, .slice B h.prices.length b, .slice C h.stock.length c, .int .i64 h.cash, .slice D h.tables.length d] 33)) (.cells #[.slice A' h.items.length a', .slice B' h.prices.length b', .slice C' h.stock.length c', .int .i64 h.cash, .slice D' h.tables.length d'] 33)
    simpa using this
  go_enter Tryd.func13, Tryd.ntmps13
  go_upto_region 1 with fail
  obtain ⟨V0, hW⟩ : ∃ V0, ((w.alloc (.cells #[.slice A h.items.length a, .slice B h.prices.length b, .slice C h.stock.length c, .int .i64 h.cash, .slice D h.tables.length d] 33)).alloc (.cells #[.slice A' h.items.length a', .slice B' h.prices.length b', .slice C' h.stock.length c', .int .i64 h.cash, .slice D' h.tables.length d'] 33)) = V0 := ⟨_, rfl⟩
  rw [hW] at hb0 hx0 hx1 ⊢
  clear hW
  obtain ⟨c0, c1, c2, c3, c4⟩ := five_cells hx0
  obtain ⟨e0, e1, e2, e3, e4⟩ := five_cells hx1
  go_wp2_with fail
  refine (eqItemS_same _ _ _ _ _ _ (HA.out.items.below hb0) (HA'.out.items.below hb0) HL.out.items HL.out.parts).mono ?_
  rintro e V1 ⟨rfl, hB⟩
  have hb1 := next hb0 hB
  have hx0 := (hB.block w.heap.size (heap_ltH hx0)).trans hx0
  have hx1 := (hB.block (w.heap.size + 1) (heap_ltH hx1)).trans hx1
  clear c0 c1 c2 c3 c4 e0 e1 e2 e3 e4
  obtain ⟨c0, c1, c2, c3, c4⟩ := five_cells hx0
  obtain ⟨e0, e1, e2, e3, e4⟩ := five_cells hx1
  go_wp2_with fail
  refine (eqIntS_same _ _ _ _ _ _ (HA.out.prices.below hb1) (HA'.out.prices.below hb1) HL.out.prices).mono ?_
  rintro e V2 ⟨rfl, hB⟩
  have hb2 := next hb1 hB
  have hx0 := (hB.block w.heap.size (heap_ltH hx0)).trans hx0
  have hx1 := (hB.block (w.heap.size + 1) (heap_ltH hx1)).trans hx1
  clear c0 c1 c2 c3 c4 e0 e1 e2 e3 e4
  obtain ⟨c0, c1, c2, c3, c4⟩ := five_cells hx0
  obtain ⟨e0, e1, e2, e3, e4⟩ := five_cells hx1
  go_wp2_with fail
  refine (eqIntS_same _ _ _ _ _ _ (HA.out.stock.below hb2) (HA'.out.stock.below hb2) HL.out.stock).mono ?_
  rintro e V3 ⟨rfl, hB⟩
  have hb3 := next hb2 hB
  have hx0 := (hB.block w.heap.size (heap_ltH hx0)).trans hx0
  have hx1 := (hB.block (w.heap.size + 1) (heap_ltH hx1)).trans hx1
  clear c0 c1 c2 c3 c4 e0 e1 e2 e3 e4
  obtain ⟨c0, c1, c2, c3, c4⟩ := five_cells hx0
  obtain ⟨e0, e1, e2, e3, e4⟩ := five_cells hx1
  go_wp2_with fail
  refine (eqTableS_same _ _ _ _ _ _ (HA.out.tables.below hb3) (HA'.out.tables.below hb3) HL.out.tables HL.out.rows).mono ?_
  rintro e V4 ⟨rfl, hB⟩
  have hb4 := next hb3 hB
  clear c0 c1 c2 c3 c4 e0 e1 e2 e3 e4
  go_wp2_with fail
  go_ret
  exact ⟨rfl, hb4⟩

/-- What a house takes of the measure. -/
def szHse (h : Hse) : Int := if szL 1048576 h.items < 0 then -1 else if szPl (szL 1048576 h.items) h.prices.length h.stock.length < 0 then -1 else szTbls (szPl (szL 1048576 h.items) h.prices.length h.stock.length) h.tables
theorem szHse_le {h : Hse} (hs : ¬ szHse h < 0) : HseLe 1048576 h := by
  unfold szHse at hs
  split at hs
  · omega
  · rename_i h1
    split at hs
    · omega
    · rename_i h2
      obtain ⟨i1, i2⟩ := szL_le h1
      have ht := szL_top h.items
      obtain ⟨p1, p2⟩ := szPl_le ht h2
      obtain ⟨t1, t2⟩ := szTbls_le (szPl_range _ h.prices.length h.stock.length ht).2 hs
      exact ⟨i1, i2, p1, p2, t1, t2⟩
theorem szTbls_neg {left : Int} {l : List Tbl} (h : szTbls left l < 0) : szTbls left l = -1 := by
  unfold szTbls at h ⊢
  split at h
  · rename_i hn; rw [if_pos hn]
  · rename_i hn; rw [if_neg hn]; exact szTblGo_neg l _ (by omega) h

set_option maxRecDepth 100000 in
set_option maxHeartbeats 4000000 in
theorem szHouse_any (A B C D : Option Addr) (a b c d : Nat) (h : Hse) (w : World) (hA : HseAt w A B C D h) (hl : HseLe 9223372036854775807 h) :
    Calls Tryd.prog 8 #[hseV A a B b C c D d h, .int .i64 1048576] w fun e w' => e = .returned (.int .i64 (szHse h)) ∧ Below w.heap.size w w' := by
  have HL := hide hl
  have HA := hide hA
  have hpl := hl.prices
  have hsl := hl.stock
  clear hl hA
  have ht := szL_top h.items
  obtain ⟨L1, hL1⟩ : ∃ L1, szL 1048576 h.items = L1 := ⟨_, rfl⟩
  obtain ⟨r, HR⟩ : ∃ r, Hid (szHse h = r) := ⟨_, hide rfl⟩
  rw [HR.out]

  have hb0 : Below w.heap.size w (w.alloc (.cells #[.slice A h.items.length a, .slice B h.prices.length b, .slice C h.stock.length c, .int .i64 h.cash, .slice D h.tables.length d] 26)) := by go_grown
  have hx0 := heap_alloc_new w (.cells #[.slice A h.items.length a, .slice B h.prices.length b, .slice C h.stock.length c, .int .i64 h.cash, .slice D h.tables.length d] 26)
  go_enter Tryd.func8, Tryd.ntmps8
  go_upto_region 1 with fail
  obtain ⟨V0, hW⟩ : ∃ V0, w.alloc (.cells #[.slice A h.items.length a, .slice B h.prices.length b, .slice C h.stock.length c, .int .i64 h.cash, .slice D h.tables.length d] 26) = V0 := ⟨_, rfl⟩
  rw [hW] at hb0 hx0 ⊢
  clear hW
  obtain ⟨c0, c1, c2, c3, c4⟩ := five_cells hx0
  go_wp2_with fail
  refine (szItemS_any _ _ _ _ (HA.out.items.below hb0) HL.out.items HL.out.parts).mono ?_
  rintro e V1 ⟨rfl, hB⟩
  have hb1 := next hb0 hB
  have hx1 := (hB.block w.heap.size (heap_ltH hx0)).trans hx0
  clear c0 c1 c2 c3 c4 hx0
  rw [hL1] at ht ⊢
  by_cases n1 : L1 < 0
  · have hr : r = -1 := by rw [← HR.out]; unfold szHse; rw [hL1, if_pos n1]
    subst hr
    go_wp2_with fail
    go_ret
    exact ⟨rfl, hb1⟩
  · obtain ⟨c0, c1, c2, c3, c4⟩ := five_cells hx1
    go_wp2_with fail
    refine (szIntS_any _ _ _ _ _ (by omega) ht hpl).mono ?_
    rintro e V2 ⟨rfl, rfl⟩
    have hp1 := szP_range L1 h.prices.length ht
    by_cases n2 : szP L1 h.prices.length < 0
    · have hr : r = -1 := by rw [← HR.out]; unfold szHse; rw [hL1, if_neg (show ¬ L1 < 0 by omega), if_pos (by unfold szPl; rw [if_pos n2]; omega)]
      subst hr
      go_wp2_with fail
      go_ret
      exact ⟨rfl, hb1⟩
    · go_wp2_with fail
      refine (szIntS_any _ _ _ _ _ (by omega) hp1.2 hsl).mono ?_
      rintro e V3 ⟨rfl, rfl⟩
      have hq1 := szP_range (szP L1 h.prices.length) h.stock.length hp1.2
      have hQ : Hid (szPl L1 h.prices.length h.stock.length = szP (szP L1 h.prices.length) h.stock.length) := hide (by unfold szPl; exact if_neg (show ¬ szP L1 h.prices.length < 0 by omega))
      by_cases n3 : szP (szP L1 h.prices.length) h.stock.length < 0
      · have hr : r = -1 := by rw [← HR.out]; unfold szHse; rw [hL1, if_neg (show ¬ L1 < 0 by omega), hQ.out, if_pos n3]
        subst hr
        go_wp2_with fail
        go_ret
        exact ⟨rfl, hb1⟩
      · have hR : Hid (szTbls (szP (szP L1 h.prices.length) h.stock.length) h.tables = r) := hide (by rw [← HR.out]; unfold szHse; rw [hL1, if_neg (show ¬ L1 < 0 by omega), hQ.out, if_neg (show ¬ szP (szP L1 h.prices.length) h.stock.length < 0 by omega)])
        go_wp2_with fail
        refine (szTableS_any _ _ _ _ _ (HA.out.tables.below hb1) (by omega) hq1.2 HL.out.tables HL.out.rows).mono ?_
        rintro e V4 ⟨rfl, hB4⟩
        have hb4 := next hb1 hB4
        rw [hR.out]
        by_cases n4 : r < 0
        · have hr : r = -1 := by rw [← hR.out] at n4 ⊢; exact szTbls_neg n4
          subst hr
          go_wp2_with fail
          go_ret
          exact ⟨rfl, hb4⟩
        · go_wp2_with fail
          go_ret
          exact ⟨rfl, hb4⟩

section
variable {H : Type} {enc : TypeId × Value → H} {w : World} {base : Nat} {spare : Nat → Bool} {held : Bool}

set_option maxRecDepth 100000 in
theorem open_house {r : Reach} {b0 : Nat} {v : Value} {d : DataW H} {p : List MemPlace} (hv : Value.okWide Tryd.prog w r b0 26 v) (h : DataW.Trod enc Tryd.prog w base spare held 26 v d p) :
    ∃ A a B b C c D d h, v = hseV A a B b C c D d h ∧ HseAt w A B C D h ∧ HseLe 9223372036854775807 h := by
  obtain ⟨cs, rfl, hsz⟩ := okWide_struct Tryd.underlying26 hv
  obtain ⟨fuel, hf⟩ := h
  have hc5 : cs.size = 5 := hsz.trans (by kernel_rfl)
  obtain ⟨xs, n, _, _, _, hlen, hg⟩ := DataW.trod_struct Tryd.underlying26 hf
  have hx : xs.length = 5 := hlen
  obtain ⟨l⟩ := cs
  obtain ⟨v0, v1, v2, v3, v4, rfl⟩ : ∃ v0 v1 v2 v3 v4, l = [v0, v1, v2, v3, v4] := by
    rcases l with _ | ⟨v0, _ | ⟨v1, _ | ⟨v2, _ | ⟨v3, _ | ⟨v4, _ | ⟨v5, r⟩⟩⟩⟩⟩⟩
    all_goals first | exact ⟨_, _, _, _, _, rfl⟩ | (simp at hc5)
  have fr : ∀ (i off : Nat) (t : TypeId) (hi : i < 5), Tryd.prog.cellsOf t = 1 → DataW.trod enc Tryd.prog w base spare held n t ((List.drop off (Value.cells (.agg ⟨[v0, v1, v2, v3, v4]⟩)).toList).take (Tryd.prog.cellsOf t)) = xs[i]? → ∃ y, DataW.trod enc Tryd.prog w base spare held n t ((List.drop off [v0, v1, v2, v3, v4]).take 1) = some y := fun i off t hi hc hh => by
    rw [hc, List.getElem?_eq_getElem (by omega)] at hh
    exact ⟨_, hh⟩
  obtain ⟨y0, f0⟩ := fr 0 0 22 (by omega) (by kernel_rfl) (hg 0 _ rfl)
  obtain ⟨y1, f1⟩ := fr 1 1 23 (by omega) (by kernel_rfl) (hg 1 _ rfl)
  obtain ⟨y2, f2⟩ := fr 2 2 23 (by omega) (by kernel_rfl) (hg 2 _ rfl)
  obtain ⟨y3, f3⟩ := fr 3 3 3 (by omega) (by kernel_rfl) (hg 3 _ rfl)
  obtain ⟨y4, f4⟩ := fr 4 4 24 (by omega) (by kernel_rfl) (hg 4 _ rfl)
  simp only [List.drop_zero, List.drop_succ_cons, List.take_succ_cons, List.take_zero] at f0 f1 f2 f3 f4
  obtain ⟨A, a, items, e0, hi0, hi1, hi2⟩ := open_items f0
  obtain ⟨B, b, prices, e1, hp0, hp1⟩ := open_numbers f1
  obtain ⟨C, c, stock, e2, hs0, hs1⟩ := open_numbers f2
  obtain ⟨cash, e3, _⟩ := DataW.trod_int Tryd.underlying3 f3
  obtain ⟨D, d, tables, e4, ht0, ht1, ht2⟩ := open_tbls f4
  simp only [List.cons.injEq, and_true] at e0 e1 e2 e3 e4
  subst e0 e1 e2 e3 e4
  exact ⟨A, a, B, b, C, c, D, d, ⟨items, prices, stock, cash, tables⟩, rfl, ⟨hi0, hp0, hs0, ht0⟩, ⟨hi1, hi2, hp1, hs1, ht1, ht2⟩⟩
end

end Go.Proofs.YtmepnilnlpoodaaDoor
