/- Contracts of toItem, toItemS, eqItem and eqItemS of the exact laws: what is copied reads as the same list of items, in new memory; two readings of one list are equal.
   Conditions: the list and each item's parts have at most 1048576 elements. -/
import Derived.Test.YtmepnilnlpoodaaDoorMem
namespace Go.Proofs.YtmepnilnlpoodaaDoor
open Go.RowKit

def itemCell (G : Nat → Nat) (l : List Item) (j : Nat) : Value :=
  match l[j / 3]? with
  | some x => if j % 3 = 0 then .int .i64 x.yield else if j % 3 = 1 then .slice (some ⟨G (j / 3), 0, none⟩) x.parts.length x.parts.length else .int .i64 x.marks
  | none => .int .i64 0

def zeroCell (j : Nat) : Value := if j % 3 = 1 then .slice none 0 0 else .int .i64 0

theorem itemCell0 {G : Nat → Nat} {l : List Item} {i : Nat} {x : Item} (h : l[i]? = some x) : itemCell G l (i * 3) = .int .i64 x.yield := by
  unfold itemCell; rw [show i * 3 / 3 = i from by omega, h]; simp
theorem itemCell1 {G : Nat → Nat} {l : List Item} {i : Nat} {x : Item} (h : l[i]? = some x) : itemCell G l (i * 3 + 1) = .slice (some ⟨G i, 0, none⟩) x.parts.length x.parts.length := by
  unfold itemCell; rw [show (i * 3 + 1) / 3 = i from by omega, h]; simp [show (i * 3 + 1) % 3 = 1 from by omega]
theorem itemCell2 {G : Nat → Nat} {l : List Item} {i : Nat} {x : Item} (h : l[i]? = some x) : itemCell G l (i * 3 + 2) = .int .i64 x.marks := by
  unfold itemCell; rw [show (i * 3 + 2) / 3 = i from by omega, h]; simp [show (i * 3 + 2) % 3 = 2 from by omega]
theorem itemCell_congr {G G' : Nat → Nat} {l : List Item} {j : Nat} (h : G (j / 3) = G' (j / 3)) : itemCell G l j = itemCell G' l j := by
  unfold itemCell; rw [h]

/-- Block g is the call's own row of the items, the parts of each in a later block. -/
def OwnItems (w : World) (g : Nat) (l : List Item) : Prop :=
  ∃ G : Nat → Nat, w.rowIs g 124 (l.length * 3) (itemCell G l) ∧ ∀ i x, l[i]? = some x → g < G i ∧ OwnParts w (G i) x.parts

theorem OwnParts.below {w w' : World} {g : Nat} {ps : List Part} (h : OwnParts w g ps) (hb : Below w.heap.size w w') : OwnParts w' g ps := World.rowIs.of_block h (hb.block _ (World.rowIs.lt h))

theorem OwnParts.far {w : World} {g : Nat} {ps : List Part} (h : OwnParts w g ps) {a : Addr} (ha : g ≠ a.block) (v : Value) : OwnParts (w.setCell a v) g ps := World.rowIs.setOther h ha v

theorem OwnItems.below {w w' : World} {g : Nat} {l : List Item} (h : OwnItems w g l) (hb : Below w.heap.size w w') : OwnItems w' g l := by
  obtain ⟨G, h1, h2⟩ := h
  exact ⟨G, h1.of_block (hb.block _ h1.lt), fun i x hx => ⟨(h2 i x hx).1, (h2 i x hx).2.below hb⟩⟩

theorem OwnItems.at_ {w : World} {g : Nat} {l : List Item} (h : OwnItems w g l) : ItemsAt w (some ⟨g, 0, none⟩) l := by
  obtain ⟨G, h1, h2⟩ := h
  intro i x hx
  have hi : i < l.length := (List.getElem?_eq_some_iff.1 hx).1
  refine ⟨g, 0, some ⟨G i, 0, none⟩, x.parts.length, rfl, h1.lt, ?_, ?_, ?_, (h2 i x hx).2.at_⟩
  · rw [← itemCell0 (G := G) hx, Nat.zero_add]; exact h1.cell (by omega)
  · rw [← itemCell1 (G := G) hx, Nat.zero_add]; exact h1.cell (by omega)
  · rw [← itemCell2 (G := G) hx, Nat.zero_add]; exact h1.cell (by omega)

set_option maxHeartbeats 400000 in
theorem toItem_any (A : Option Addr) (c : Nat) (y m : Int) (ps : List Part) (w : World) (h1 : PartsAt w A ps) (hl : ps.length ≤ 1048576) :
    Calls Tryd.prog 70 #[.agg #[.int .i64 y, .slice A ps.length c, .int .i64 m]] w fun e w' => e = .returned (.agg #[.int .i64 y, .slice (some ⟨w.heap.size + 3, 0, none⟩) ps.length ps.length, .int .i64 m]) ∧
      OwnParts w' (w.heap.size + 3) ps ∧ Below w.heap.size w w' := by
  go_enter Tryd.func70, Tryd.ntmps70
  go_wp2_with fail
  refine (toPartS_any _ _ _ _ (h1.below (by go_grown)) hl).mono ?_
  rintro e w' ⟨rfl, hO, hB⟩
  have hsz := hB.size
  simp only [World.size_alloc] at hsz hO hB
  have hb2 : Below w.heap.size w w' := Below.trans (by go_grown) (hB.mono (by omega))
  have hsz2 := hb2.size
  have hc : ∀ b o, b < w.heap.size + 3 → w'.cell? ⟨b, o, none⟩ = _ := fun b o hb => hB.cell (p := ⟨b, o, none⟩) hb
  have hf : ∀ b o, b < w.heap.size + 3 → w'.frozen? ⟨b, o, none⟩ = _ := fun b o hb => hB.frozen (p := ⟨b, o, none⟩) hb
  go_wp2_with fail
  refine bodyPost_ret (v := .agg #[.int .i64 y, .slice (some ⟨w.heap.size + 3, 0, none⟩) ps.length ps.length, .int .i64 m]) (by simp [results, Tryd.results70, go_sem, hc]) rfl ⟨rfl, ?_, by go_grown⟩
  exact ((((hO.far (Nat.ne_of_gt (by simp)) _).far (Nat.ne_of_gt (by simp)) _).far (Nat.ne_of_gt (by simp)) _).far (Nat.ne_of_gt (by simp)) _).far (Nat.ne_of_gt (by simp)) _

theorem info67 : (Tryd.prog.info? 124).map (fun i => (i.zero, i.size, i.bytes)) = some (some (.agg #[.int .i64 0, .slice none 0 0, .int .i64 0]), 3, 40) := by kernel_rfl

theorem made3 (n : Nat) (i : Nat) (hi : i < n * 3) : (madeCells #[.int .i64 0, .slice none 0 0, .int .i64 0] (n * 3))[i]? = some (zeroCell i) := by
  have : i % 3 = 0 ∨ i % 3 = 1 ∨ i % 3 = 2 := by omega
  rcases this with h | h | h <;> simp [madeCells, zeroCell, hi, h]

theorem make_items (n : Nat) (hn : n ≤ 1048576) (w : World) :
    (Instr.makeSlice 30 (.int .i64 (n : Int)) (.int .i64 (n : Int))).run Tryd.prog w = .ok (.slice (some ⟨w.heap.size, 0, none⟩) n n) (w.alloc (.cells (madeCells #[.int .i64 0, .slice none 0 0, .int .i64 0] (n * 3)) 124)) := by
  obtain ⟨i0, hi, hz0, hz1, hz2⟩ := info_parts info67
  have := run_make (P := Tryd.prog) w 30 124 i0 _ Tryd.underlying30 hi hz0 .i64 .i64 n n (by omega) (by omega) (by rw [hz2]; omega) (by omega)
  simpa [hz1, Value.cells] using this

/-- What toItemS knows after k rounds. -/
def ItemsTo (w : World) (g : Nat) (l : List Item) (k : Nat) : Prop :=
  ∃ G : Nat → Nat, w.rowIs g 124 (l.length * 3) (fun j => if j < k * 3 then itemCell G l j else zeroCell j) ∧ ∀ i x, i < k → l[i]? = some x → g < G i ∧ OwnParts w (G i) x.parts

theorem ItemsTo.below {w w' : World} {g : Nat} {l : List Item} {k : Nat} (h : ItemsTo w g l k) (hb : Below w.heap.size w w') : ItemsTo w' g l k := by
  obtain ⟨G, h1, h2⟩ := h
  exact ⟨G, h1.of_block (hb.block _ h1.lt), fun i x hk hx => ⟨(h2 i x hk hx).1, (h2 i x hk hx).2.below hb⟩⟩

theorem ItemsTo.lt {w : World} {g : Nat} {l : List Item} {k : Nat} (h : ItemsTo w g l k) : g < w.heap.size := by
  obtain ⟨G, h1, _⟩ := h; exact h1.lt

theorem ItemsTo.cell {w : World} {g : Nat} {l : List Item} {k : Nat} (h : ItemsTo w g l k) (j : Nat) (hj : j < l.length * 3) : ∃ v, w.cell? ⟨g, j, none⟩ = some v := by
  obtain ⟨G, h1, _⟩ := h; exact ⟨_, h1.cell hj⟩
theorem ItemsTo.frozen {w : World} {g : Nat} {l : List Item} {k : Nat} (h : ItemsTo w g l k) (j : Nat) : w.frozen? ⟨g, j, none⟩ = false := by
  obtain ⟨G, h1, _⟩ := h; exact h1.frozen j

theorem ItemsTo.step {w : World} {g g' : Nat} {l : List Item} {k : Nat} {x : Item} (h : ItemsTo w g l k) (hx : l[k]? = some x) (hg : g < g') (hO : OwnParts w g' x.parts) :
    ItemsTo (((w.setCell ⟨g, k * 3, none⟩ (.int .i64 x.yield)).setCell ⟨g, k * 3 + 1, none⟩ (.slice (some ⟨g', 0, none⟩) x.parts.length x.parts.length)).setCell ⟨g, k * 3 + 2, none⟩ (.int .i64 x.marks)) g l (k + 1) := by
  obtain ⟨G, h1, h2⟩ := h
  refine ⟨fun i => if i = k then g' else G i, ((((h1.set (k * 3) _).set (k * 3 + 1) _).set (k * 3 + 2) _).congr fun j hj => ?_), fun i y hi hy => ?_⟩
  · by_cases e0 : j = k * 3
    · subst e0
      rw [if_neg (by omega), if_neg (by omega), if_pos rfl, if_pos (by omega), itemCell0 hx]
    · by_cases e1 : j = k * 3 + 1
      · subst e1
        rw [if_neg (by omega), if_pos rfl, if_pos (by omega), itemCell1 hx, if_pos rfl]
      · by_cases e2 : j = k * 3 + 2
        · subst e2
          rw [if_pos rfl, if_pos (by omega), itemCell2 hx]
        · rw [if_neg e2, if_neg e1, if_neg e0]
          by_cases e : j < k * 3
          · rw [if_pos e, if_pos (by omega)]
            exact itemCell_congr (by rw [if_neg (by omega)])
          · rw [if_neg e, if_neg (by omega)]
  · by_cases e : i = k
    · subst e
      obtain rfl : y = x := by rw [hx] at hy; injection hy with hy; exact hy.symm
      simp only [if_pos]
      exact ⟨hg, ((hO.far (by simp; omega) _).far (by simp; omega) _).far (by simp; omega) _⟩
    · obtain ⟨hG, hP⟩ := h2 i y (by omega) hy
      simp only [if_neg e]
      exact ⟨hG, ((hP.far (by simp; omega) _).far (by simp; omega) _).far (by simp; omega) _⟩

theorem ItemsTo.all {w : World} {g : Nat} {l : List Item} {k : Nat} (h : ItemsTo w g l k) (hk : l.length ≤ k) : OwnItems w g l := by
  obtain ⟨G, h1, h2⟩ := h
  exact ⟨G, h1.congr fun j hj => if_pos (by omega), fun i x hx => h2 i x (by have := (List.getElem?_eq_some_iff.1 hx).1; omega) hx⟩

set_option maxHeartbeats 400000 in
theorem toItemS_any (A : Option Addr) (c : Nat) (l : List Item) (w : World) (hA : ItemsAt w A l) (hl : l.length ≤ 1048576) (hp : ∀ x ∈ l, x.parts.length ≤ 1048576) :
    Calls Tryd.prog 35 #[.slice A l.length c] w fun e w' => e = .returned (.slice (some ⟨w.heap.size, 0, none⟩) l.length l.length) ∧ OwnItems w' w.heap.size l ∧ Below w.heap.size w w' := by
  have hmk := make_items l.length hl
  have HP := hide hp
  clear hp
  go_enter Tryd.func35, Tryd.ntmps35
  go_wp2_with fail
  clear hmk
  go_loopw [4] (fun i wr => ∃ k : Nat, k ≤ l.length ∧ i = .int .i64 k ∧ ItemsTo wr w.heap.size l k ∧ Below w.heap.size w wr) (fun i _ => l.length - (intOf i).toNat)
  case atStart => exact ⟨0, Nat.zero_le _, rfl, ⟨fun _ => 0, ⟨_, Deep.blk_alloc_new _ _, size_madeCells _ _, fun i hi => by rw [made3 _ _ hi]; simp⟩, fun i x hi => absurd hi (by omega)⟩, by go_grown⟩
  case round =>
    obtain ⟨k, hk, rfl, hrow, hb⟩ := hrel
    have hsz := hb.size
    by_cases hlt : k < l.length
    · obtain ⟨b, off, A', c', rfl, hbl, hc1, hc2, hc3, hpa⟩ := (hA.below hb) k l[k] (List.getElem?_eq_getElem hlt)
      have HX : Hid (l[k]? = some l[k]) := hide (List.getElem?_eq_getElem hlt)
      have hx : l[k].parts.length ≤ 1048576 := HP.out _ (List.getElem_mem hlt)
      generalize l[k] = x at *
      have hz : (0 : Int) ≤ k := by omega
      have hz2 : (k : Int) < l.length := by omega
      go_wp2_with fail
      refine (toItem_any _ _ _ _ _ _ hpa hx).mono ?_
      rintro e w' ⟨rfl, hO, hB⟩
      have hrow2 := hrow.below hB
      have hlt2 := hrow.lt
      obtain ⟨v1, hq1⟩ := hrow2.cell (k * 3) (by omega)
      obtain ⟨v2, hq2⟩ := hrow2.cell (k * 3 + 1) (by omega)
      obtain ⟨v3, hq3⟩ := hrow2.cell (k * 3 + 2) (by omega)
      have hf := hrow2.frozen
      have hb2 : Below w.heap.size w w' := next hb hB
      have hsz2 := hb2.size
      have HS := hide (hrow2.step HX.out (by omega) hO)
      go_wp2_with fail
      go_roundw
      case rel => exact ⟨k + 1, hlt, by go_num, HS.out, by go_grown⟩
      case measure => simp [intOf]; omega
    · go_wp2_with fail
      go_ret
      exact ⟨rfl, hrow.all (by omega), by go_grown⟩

set_option maxHeartbeats 400000 in
theorem eqItem_same (A A' : Option Addr) (c c' : Nat) (y m : Int) (ps : List Part) (w : World) (h1 : PartsAt w A ps) (h2 : PartsAt w A' ps) (hl : ps.length ≤ 1048576) :
    Calls Tryd.prog 80 #[.agg #[.int .i64 y, .slice A ps.length c, .int .i64 m], .agg #[.int .i64 y, .slice A' ps.length c', .int .i64 m]] w fun e w' => e = .returned (.bool true) ∧ Below w.heap.size w w' := by
  have hy : (y != y) = false := by simp
  have hm : (m != m) = false := by simp
  go_enter Tryd.func80, Tryd.ntmps80
  go_wp2_with fail
  refine (eqPartS_same _ _ _ _ _ _ (h1.below (by go_grown)) (h2.below (by go_grown)) hl).mono ?_
  rintro e w' ⟨rfl, hB⟩
  have hb2 : Below w.heap.size w w' := Below.trans (by go_grown) (hB.mono (by simp; omega))
  have hc : ∀ b o, b < w.heap.size + 2 → w'.cell? ⟨b, o, none⟩ = _ := fun b o hb => hB.cell (p := ⟨b, o, none⟩) (by simp; omega)
  go_wp2_with fail
  go_ret
  exact ⟨rfl, by go_grown⟩

set_option maxHeartbeats 400000 in
theorem eqItemS_same (A A' : Option Addr) (c c' : Nat) (l : List Item) (w : World) (h1 : ItemsAt w A l) (h2 : ItemsAt w A' l) (hl : l.length ≤ 1048576) (hp : ∀ x ∈ l, x.parts.length ≤ 1048576) :
    Calls Tryd.prog 41 #[.slice A l.length c, .slice A' l.length c'] w fun e w' => e = .returned (.bool true) ∧ Below w.heap.size w w' := by
  have he : ((l.length : Int) != l.length) = false := by simp
  have HP := hide hp
  clear hp
  go_enter Tryd.func41, Tryd.ntmps41
  go_wp2_with fail
  go_loopw [5] (fun i wr => ∃ k : Nat, k ≤ l.length ∧ i = .int .i64 k ∧ Below w.heap.size w wr) (fun i _ => l.length - (intOf i).toNat)
  case atStart => exact ⟨0, Nat.zero_le _, rfl, Below.refl _ _⟩
  case round =>
    obtain ⟨k, hk, rfl, hb⟩ := hrel
    have hsz := hb.size
    by_cases hlt : k < l.length
    · obtain ⟨b, off, B, d, rfl, hbl, hc1, hc2, hc3, hpa⟩ := (h1.below hb) k l[k] (List.getElem?_eq_getElem hlt)
      obtain ⟨b', off', B', d', rfl, hbl', hc1', hc2', hc3', hpa'⟩ := (h2.below hb) k l[k] (List.getElem?_eq_getElem hlt)
      have hx : l[k].parts.length ≤ 1048576 := HP.out _ (List.getElem_mem hlt)
      generalize l[k] = x at *
      have hz : (0 : Int) ≤ k := by omega
      have hz2 : (k : Int) < l.length := by omega
      have HA := hide hpa
      have HA' := hide hpa'
      clear hpa hpa'
      go_wp2_with fail
      go_region_held3 (fun W => W.cell? ⟨b, off + k * 3, none⟩ = some (.int .i64 x.yield) ∧ W.cell? ⟨b, off + k * 3 + 1, none⟩ = some (.slice B x.parts.length d) ∧ W.cell? ⟨b, off + k * 3 + 2, none⟩ = some (.int .i64 x.marks) ∧
          W.cell? ⟨b', off' + k * 3, none⟩ = some (.int .i64 x.yield) ∧ W.cell? ⟨b', off' + k * 3 + 1, none⟩ = some (.slice B' x.parts.length d') ∧ W.cell? ⟨b', off' + k * 3 + 2, none⟩ = some (.int .i64 x.marks) ∧ Below w.heap.size w W)
        (first | exact ⟨hc1, hc2, hc3, hc1', hc2', hc3', hb.drew⟩ | exact ⟨(hB.cell hbl).trans hc1, (hB.cell hbl).trans hc2, (hB.cell hbl).trans hc3, (hB.cell hbl').trans hc1', (hB.cell hbl').trans hc2', (hB.cell hbl').trans hc3', hb.drew.trans (hB.mono hsz)⟩)
        (first | (go_at_call 80; refine (eqItem_same _ _ _ _ _ _ _ wr.drew (id HA.out) (id HA'.out) hx).mono ?_; rintro e W' ⟨rfl, hB⟩))
      have hb2 : Below w.heap.size w W' := hb.drew.trans (hB.mono hsz)
      have hsz2 := hb2.size
      go_wp2_with fail
      go_roundw
      case rel => exact ⟨k + 1, hlt, by go_num, by go_grown⟩
      case measure => simp [intOf]; omega
    · go_wp2_with fail
      go_ret
      exact ⟨rfl, by go_grown⟩
end Go.Proofs.YtmepnilnlpoodaaDoor
