/- Marks in a house that the call itself laid: what markTableS and markHouse write lies between two blocks, and what they answer is not negative.
   Conditions: lists have at most 1048576 elements. -/
import Derived.Test.YtmepnilnlpoodaaDoorHseMem
import Derived.Test.YtmepnilnlpoodaaDoorOrders
namespace Go.Proofs.YtmepnilnlpoodaaDoor
open Go.RowKit Go.ChangeShapes Go.WideShapes Go.ChangeAt Go.Deep

set_option maxHeartbeats 400000 in
theorem markOrderR_any (g n c : Nat) (k0 : Int) (f : Nat → Value) (w : World) (h : w.rowIs g 121 (n * 2) f) (hn : n ≤ 1048576) (hk0 : 0 ≤ k0) (hk1 : k0 ≤ 10000000000000) :
    Calls Tryd.prog 83 #[.slice (some ⟨g, 0, none⟩) n c, .int .i64 k0] w fun e w' => e = .returned (.int .i64 (k0 + 2 * (n : Int))) ∧ w.grownBy w' (some g) ∧ Shape w w' := by
  go_enter Tryd.func83, Tryd.ntmps83
  go_wp2_with fail
  go_loopw [1, 5] (fun kv i wr => ∃ (j : Nat), j ≤ n ∧ kv = .int .i64 (k0 + 2 * j) ∧ i = .int .i64 j ∧ w.grownBy wr (some g) ∧ Shape w wr) (fun _ i _ => n - (intOf i).toNat)
  case atStart => exact ⟨0, by omega, by simp, rfl, World.grownBy.refl _ _, Shape.refl _⟩
  case round =>
    obtain ⟨j, hj, rfl, rfl, hg, hs⟩ := hrel
    obtain ⟨f1, hrow⟩ := hs _ _ _ _ h
    by_cases hlt : j < n
    · have hz : (0 : Int) ≤ j := by omega
      have hz2 : (j : Int) < n := by omega
      have hq1 := hrow.cell (i := j * 2) (by omega)
      have hq2 := hrow.cell (i := j * 2 + 1) (by omega)
      have hf := hrow.frozen
      have HG := hide (((hg.trans (grown_set _ g (j * 2) (.int .i64 (k0 + 2 * j)))).trans (grown_set _ g (j * 2 + 1) (.int .i64 (k0 + 2 * j + 1)))))
      have HS := hide ((hs.trans (Shape.setCell _ g (j * 2) (.int .i64 (k0 + 2 * j)))).trans (Shape.setCell _ g (j * 2 + 1) (.int .i64 (k0 + 2 * j + 1))))
      have hne : ¬ (j * 2 + 1 = j * 2) := by omega
      clear hrow hg hs
      go_wp2_with fail
      go_roundw
      case rel => exact ⟨j + 1, hlt, by go_num, by go_num, HG.out, HS.out⟩
      case measure => simp [intOf]; omega
    · obtain rfl : n = j := by omega
      go_wp2_with fail
      go_ret
      exact ⟨rfl, hg, hs⟩

set_option maxHeartbeats 400000 in
theorem markIntR_any (g n c : Nat) (k0 : Int) (f : Nat → Value) (w : World) (h : w.rowIs g 3 n f) (hn : n ≤ 1048576) (hk0 : 0 ≤ k0) (hk1 : k0 ≤ 10000000000000) :
    Calls Tryd.prog 45 #[.slice (some ⟨g, 0, none⟩) n c, .int .i64 k0] w fun e w' => e = .returned (.int .i64 (k0 + (n : Int))) ∧ w.grownBy w' (some g) ∧ Shape w w' := by
  go_enter Tryd.func45, Tryd.ntmps45
  go_wp2_with fail
  go_loopw [1, 5] (fun kv i wr => ∃ (j : Nat), j ≤ n ∧ kv = .int .i64 (k0 + j) ∧ i = .int .i64 j ∧ w.grownBy wr (some g) ∧ Shape w wr) (fun _ i _ => n - (intOf i).toNat)
  case atStart => exact ⟨0, by omega, by simp, rfl, World.grownBy.refl _ _, Shape.refl _⟩
  case round =>
    obtain ⟨j, hj, rfl, rfl, hg, hs⟩ := hrel
    obtain ⟨f1, hrow⟩ := hs _ _ _ _ h
    by_cases hlt : j < n
    · have hz : (0 : Int) ≤ j := by omega
      have hz2 : (j : Int) < n := by omega
      have hq1 := hrow.cell (i := j) (by omega)
      have hf := hrow.frozen
      have HG := hide (hg.trans (grown_set _ g j (.int .i64 (k0 + j))))
      have HS := hide (hs.trans (Shape.setCell _ g j (.int .i64 (k0 + j))))
      clear hrow hg hs
      go_wp2_with fail
      go_roundw
      case rel => exact ⟨j + 1, hlt, by go_num, by go_num, HG.out, HS.out⟩
      case measure => simp [intOf]; omega
    · obtain rfl : n = j := by omega
      go_wp2_with fail
      go_ret
      exact ⟨rfl, hg, hs⟩

/-- The tables that the call itself laid, between blocks lo and hi. -/
def OwnTblsIn (w : World) (lo hi g : Nat) (l : List Tbl) : Prop :=
  ∃ G H : Nat → Nat, (lo ≤ g ∧ g < hi) ∧ (∃ f, w.rowIs g 115 (l.length * 3) f ∧ ∀ i x, l[i]? = some x → f (i * 3 + 1) = .slice (some ⟨G i, 0, none⟩) x.dishes.length x.dishes.length ∧ f (i * 3 + 2) = .slice (some ⟨H i, 0, none⟩) x.of.length x.of.length) ∧
    ∀ i x, l[i]? = some x → (g < G i ∧ G i < hi ∧ ∃ f, w.rowIs (G i) 121 (x.dishes.length * 2) f) ∧ (g < H i ∧ H i < hi ∧ ∃ f, w.rowIs (H i) 3 x.of.length f)

theorem OwnTbls.toIn {w : World} {lo hi g : Nat} {l : List Tbl} (h : OwnTbls w g l) (h0 : lo ≤ g) (hh : w.heap.size = hi) : OwnTblsIn w lo hi g l := by
  obtain ⟨G, H, h1, h2⟩ := h
  subst hh
  refine ⟨G, H, ⟨h0, h1.lt⟩, ⟨_, h1, fun i x hx => ⟨tblCell1 hx, tblCell2 hx⟩⟩, fun i x hx => ?_⟩
  obtain ⟨a, b, hO, hI⟩ := h2 i x hx
  exact ⟨⟨a, World.rowIs.lt hO, _, hO⟩, ⟨b, World.rowIs.lt hI, _, hI⟩⟩
theorem OwnTblsIn.below {w w' : World} {lo hi g : Nat} {l : List Tbl} (h : OwnTblsIn w lo hi g l) (hb : Below w.heap.size w w') : OwnTblsIn w' lo hi g l := by
  obtain ⟨G, H, h0, ⟨f, hf, hc⟩, h2⟩ := h
  refine ⟨G, H, h0, ⟨f, hf.of_block (hb.block _ hf.lt), hc⟩, fun i x hx => ?_⟩
  obtain ⟨⟨a, b, f', hf'⟩, c, d, f2, hf2⟩ := h2 i x hx
  exact ⟨⟨a, b, f', hf'.of_block (hb.block _ hf'.lt)⟩, c, d, f2, hf2.of_block (hb.block _ hf2.lt)⟩
theorem OwnTblsIn.set {w : World} {lo hi g : Nat} {l : List Tbl} (h : OwnTblsIn w lo hi g l) (j : Nat) (v : Value) : OwnTblsIn (w.setCell ⟨g, j * 3, none⟩ v) lo hi g l := by
  obtain ⟨G, H, h0, ⟨f, hf, hc⟩, h2⟩ := h
  refine ⟨G, H, h0, ⟨_, hf.set (j * 3) v, fun i x hx => ?_⟩, fun i x hx => ?_⟩
  · obtain ⟨a, b⟩ := hc i x hx
    refine ⟨?_, ?_⟩
    · show (if i * 3 + 1 = j * 3 then v else f (i * 3 + 1)) = _
      rw [if_neg (by omega)]
      exact a
    · show (if i * 3 + 2 = j * 3 then v else f (i * 3 + 2)) = _
      rw [if_neg (by omega)]
      exact b
  · obtain ⟨⟨a, b, f', hf'⟩, c, d, f2, hf2⟩ := h2 i x hx
    exact ⟨⟨a, b, f', hf'.setOther (by show G i ≠ g; omega) v⟩, c, d, f2, hf2.setOther (by show H i ≠ g; omega) v⟩
theorem OwnTblsIn.shape {w w' : World} {lo hi g g' : Nat} {l : List Tbl} (h : OwnTblsIn w lo hi g l) (hs : Shape w w') (hg : w.grownBy w' (some g')) (hne : g ≠ g') : OwnTblsIn w' lo hi g l := by
  obtain ⟨G, H, h0, ⟨f, hf, hc⟩, h2⟩ := h
  refine ⟨G, H, h0, ⟨f, hf.of_block (hg.block _ hf.lt (fun e => by injection e with e; exact hne e)), hc⟩, fun i x hx => ?_⟩
  obtain ⟨⟨a, b, f', hf'⟩, c, d, f2, hf2⟩ := h2 i x hx
  exact ⟨⟨a, b, hs _ _ _ _ hf'⟩, c, d, hs _ _ _ _ hf2⟩

set_option maxHeartbeats 2000000 in
theorem markTableS_bd (lo hi g c : Nat) (l : List Tbl) (k0 : Int) (w : World) (h : OwnTblsIn w lo hi g l) (hl : l.length ≤ 1048576) (hp : ∀ x ∈ l, TblLe 1048576 x) (hk0 : 0 ≤ k0) (hk1 : k0 ≤ 4000000000000) :
    Calls Tryd.prog 46 #[.slice (some ⟨g, 0, none⟩) l.length c, .int .i64 k0] w fun e w' => ∃ r : Int, e = .returned (.int .i64 r) ∧ 0 ≤ r ∧ Within lo hi w w' := by
  have HP := hide hp
  clear hp
  go_enter Tryd.func46, Tryd.ntmps46
  go_wp2_with fail
  go_loopw [1, 5] (fun kv i wr => ∃ (j : Nat) (r : Int), j ≤ l.length ∧ 0 ≤ r ∧ r ≤ k0 + 3145729 * j ∧ kv = .int .i64 r ∧ i = .int .i64 j ∧ OwnTblsIn wr lo hi g l ∧ Within lo hi w wr) (fun _ i _ => l.length - (intOf i).toNat)
  case atStart => exact ⟨0, k0, by omega, by omega, by omega, rfl, rfl, h, Within.refl _ _ _⟩
  case round =>
    obtain ⟨j, r, hj, hr0, hr1, rfl, rfl, hO, hW⟩ := hrel
    by_cases hlt : j < l.length
    · have hO' := hO
      obtain ⟨G, H, hlo, ⟨f, hrow, hcs⟩, hrest⟩ := hO'
      have hx := List.getElem?_eq_getElem hlt
      have hpl := HP.out _ (List.getElem_mem hlt)
      obtain ⟨⟨hgl, hgh, f2, hrow2⟩, hhl, hhh, f3, hrow3⟩ := hrest j _ hx
      have hc1 := hrow.cell (i := j * 3) (by omega)
      have hc2 := hrow.cell (i := j * 3 + 1) (by omega)
      have hc3 := hrow.cell (i := j * 3 + 2) (by omega)
      rw [(hcs j _ hx).1] at hc2
      rw [(hcs j _ hx).2] at hc3
      have hf := hrow.frozen (j * 3)
      generalize l[j] = x at *
      generalize G j = q at *
      generalize H j = q2 at *
      obtain ⟨hd1, hd2⟩ := hpl
      have hO1 := hO.set j (.int .i64 r)
      have hW1 := hW.grown (grown_set wr g (j * 3) (.int .i64 r)) hlo.1 hlo.2
      have hr2 := hrow2.setOther (a := ⟨g, j * 3, none⟩) (by show q ≠ g; omega) (.int .i64 r)
      have hr3 := hrow3.setOther (a := ⟨g, j * 3, none⟩) (by show q2 ≠ g; omega) (.int .i64 r)
      have e2 : (wr.setCell ⟨g, j * 3, none⟩ (.int .i64 r)).cell? ⟨g, j * 3 + 1, none⟩ = some (.slice (some ⟨q, 0, none⟩) x.dishes.length x.dishes.length) := (World.cell?_setCell_other _ _ _ _ (by intro e; injection e with _ e; omega)).trans hc2
      have e3 : (wr.setCell ⟨g, j * 3, none⟩ (.int .i64 r)).cell? ⟨g, j * 3 + 2, none⟩ = some (.slice (some ⟨q2, 0, none⟩) x.of.length x.of.length) := (World.cell?_setCell_other _ _ _ _ (by intro e; injection e with _ e; omega)).trans hc3
      have hgl1 : g < (wr.setCell ⟨g, j * 3, none⟩ (.int .i64 r)).heap.size := by have := hrow.lt; simpa using this
      have hz : (0 : Int) ≤ j := by omega
      have hz2 : (j : Int) < l.length := by omega
      have HZ := hide (And.intro hO1 (And.intro hW1 (And.intro hr2 (And.intro hr3 (And.intro e2 (And.intro e3 hgl1))))))
      have HLO := hide hlo
      clear hO hW hrow2 hrow3 hO1 hW1 hr2 hr3 hrow hrest hcs hx e2 e3 hc2 hc3 hlo hgl1
      go_upto_region 5 with fail
      obtain ⟨hO1, hW1, hr2, hr3, e2, e3, hgl1⟩ := HZ.out
      clear HZ hc1 hf
      obtain ⟨W1, hW1e⟩ : ∃ W1, wr.setCell ⟨g, j * 3, none⟩ (.int .i64 r) = W1 := ⟨_, rfl⟩
      rw [hW1e] at hO1 hW1 hr2 hr3 e2 e3 hgl1 ⊢
      clear hW1e
      have HO1 := hide hO1
      have HW1 := hide hW1
      have HR2 := hide hr2
      have HR3 := hide hr3
      have HE3 := hide e3
      clear hO1 hW1 hr2 hr3 e3
      go_wp2_with fail
      refine (markOrderR_any _ _ _ _ _ _ HR2.out hd1 (by omega) (by omega)).mono ?_
      rintro e w2 ⟨rfl, hg2, hs2⟩
      have HO2 := hide (HO1.out.shape hs2 hg2 (by omega))
      have HW2 := hide (HW1.out.grown hg2 (by have := HLO.out.1; omega) hgh)
      obtain ⟨f5, hr5⟩ := hs2 _ _ _ _ HR3.out
      have e5 : w2.cell? ⟨g, j * 3 + 2, none⟩ = some (.slice (some ⟨q2, 0, none⟩) x.of.length x.of.length) := (World.cell?_of_block (hg2.block g hgl1 (fun e => by injection e with e; omega))).trans HE3.out
      have HR5 := hide hr5
      clear hg2 hs2 hr5 HR3 HR2 HO1 HW1 HE3 e2
      go_wp2_with fail
      refine (markIntR_any _ _ _ _ _ _ HR5.out hd2 (by omega) (by omega)).mono ?_
      rintro e w3 ⟨rfl, hg3, hs3⟩
      have HO3 := hide (HO2.out.shape hs3 hg3 (by omega))
      have HW3 := hide (HW2.out.grown hg3 (by have := HLO.out.1; omega) hhh)
      clear hg3 hs3 HR5 HO2 HW2 e5
      go_wp2_with fail
      go_roundw
      case rel => exact ⟨j + 1, _, hlt, by omega, by omega, rfl, by go_num, HO3.out, HW3.out⟩
      case measure => simp [intOf]; omega
    · go_wp2_with fail
      refine bodyPost_ret (results_tmp rfl _ _ _) rfl ⟨r, rfl, hr0, hW⟩

/-- Only rows of items and of parts are written. -/
def OnlyIP (w w' : World) : Prop := ∀ (b : Nat) (cs : Array Value) (t : TypeId) (i : Nat × Nat), w.heap[b]? = some (Obj.cells cs t i) → t ≠ 124 → t ≠ 130 → w'.heap[b]? = w.heap[b]?
theorem OnlyIP.refl (w : World) : OnlyIP w w := fun _ _ _ _ _ _ _ => rfl
theorem OnlyIP.trans {a b c : World} (h : OnlyIP a b) (k : OnlyIP b c) : OnlyIP a c := fun x cs t i hx h1 h2 => by
  have e := h x cs t i hx h1 h2
  exact (k x cs t i (e.trans hx) h1 h2).trans e
theorem OnlyIP.grown {w w' : World} {g n : Nat} {t0 : TypeId} {f : Nat → Value} (hr : w.rowIs g t0 n f) (ht : t0 = 124 ∨ t0 = 130) (hg : w.grownBy w' (some g)) : OnlyIP w w' := fun b cs t i hb h1 h2 => by
  by_cases e : b = g
  · subst e
    obtain ⟨cs', hb', _, _⟩ := hr
    rw [hb] at hb'
    injection hb' with hb'
    injection hb' with _ e2 _
    rcases ht with ht | ht
    · exact absurd (e2.trans ht) h1
    · exact absurd (e2.trans ht) h2
  · exact hg.block b (Array.getElem?_eq_some_iff.1 hb).1 (fun e' => by injection e' with e'; exact e e')

set_option maxHeartbeats 2000000 in
theorem markItemS_bh (lo hi g c : Nat) (l : List Item) (w : World) (h : OwnIn w lo hi g l) (hl : l.length ≤ 1048576) (hp : ∀ x ∈ l, x.parts.length ≤ 1048576) :
    Calls Tryd.prog 44 #[.slice (some ⟨g, 0, none⟩) l.length c, .int .i64 1] w fun e w' => ∃ r : Int, e = .returned (.int .i64 r) ∧ 0 ≤ r ∧ r ≤ 3000000000000 ∧ Within lo hi w w' ∧ Shape w w' ∧ OnlyIP w w' := by
  have HP := hide hp
  clear hp
  go_enter Tryd.func44, Tryd.ntmps44
  go_wp2_with fail
  go_loopw [1, 5] (fun kv i wr => ∃ (j : Nat) (r : Int), j ≤ l.length ∧ 0 ≤ r ∧ r ≤ 1 + 2097154 * j ∧ kv = .int .i64 r ∧ i = .int .i64 j ∧ OwnIn wr lo hi g l ∧ Within lo hi w wr ∧ Shape w wr ∧ OnlyIP w wr) (fun _ i _ => l.length - (intOf i).toNat)
  case atStart => exact ⟨0, 1, by omega, by omega, by omega, rfl, rfl, h, Within.refl _ _ _, Shape.refl _, OnlyIP.refl _⟩
  case round =>
    obtain ⟨j, r, hj, hr0, hr1, rfl, rfl, hO, hW, hSh, hIP⟩ := hrel
    by_cases hlt : j < l.length
    · obtain ⟨G, hlo, ⟨f, hrow, hcs⟩, hrest⟩ := hO
      have hO : OwnIn wr lo hi g l := ⟨G, hlo, ⟨f, hrow, hcs⟩, hrest⟩
      have hx := List.getElem?_eq_getElem hlt
      have hpl := HP.out _ (List.getElem_mem hlt)
      obtain ⟨hgl, hgh, f2, hrow2⟩ := hrest j _ hx
      have hc1 := hrow.cell (i := j * 3) (by omega)
      have hc2 := hrow.cell (i := j * 3 + 1) (by omega)
      have hc3 := hrow.cell (i := j * 3 + 2) (by omega)
      rw [hcs j _ hx] at hc2
      have hf := hrow.frozen
      generalize l[j] = x at *
      generalize G j = q at *
      have hO1 := hO.set (j * 3) (by omega) (.int .i64 r)
      have hW1 := hW.grown (grown_set wr g (j * 3) (.int .i64 r)) hlo.1 hlo.2
      have hrow3 := hrow2.setOther (a := ⟨g, j * 3, none⟩) (by show q ≠ g; omega) (.int .i64 r)
      have HO1 := hide hO1
      have HW1 := hide hW1
      have HR3 := hide hrow3
      have HLO := hide hlo
      have HIP := hide (hIP.trans (OnlyIP.grown hrow (.inl rfl) (grown_set wr g (j * 3) (.int .i64 r))))
      have HSH := hide (hSh.trans (Shape.setCell wr g (j * 3) (.int .i64 r)))
      clear hIP hSh hO hW hrow2 hO1 hW1 hrow3 hrow hrest hcs hx
      have hz : (0 : Int) ≤ j := by omega
      have hz2 : (j : Int) < l.length := by omega
      go_wp2_with fail
      refine (markPartS_any _ _ _ _ _ _ HR3.out hpl (by omega) (by omega)).mono ?_
      rintro e w2 ⟨rfl, hg2, hs2⟩
      have hO2 := HO1.out.shape hs2 hg2 (by omega)
      have hW2 := HW1.out.grown hg2 (by have := HLO.out.1; omega) hgh
      have HO3 := hide (hO2.set (j * 3 + 2) (by omega) (.int .i64 (r + 1 + 2 * (x.parts.length : Int))))
      have HW3 := hide (hW2.grown (grown_set w2 g (j * 3 + 2) (.int .i64 (r + 1 + 2 * (x.parts.length : Int)))) HLO.out.1 HLO.out.2)
      obtain ⟨G2, _, ⟨f4, hrow4, _⟩, _⟩ := hO2
      have hd3 := hrow4.cell (i := j * 3 + 2) (by omega)
      have hf4 := hrow4.frozen
      have HIP2 := hide ((HIP.out.trans (OnlyIP.grown HR3.out (.inr rfl) hg2)).trans (OnlyIP.grown hrow4 (.inl rfl) (grown_set w2 g (j * 3 + 2) (.int .i64 (r + 1 + 2 * (x.parts.length : Int))))))
      have HSH2 := hide ((HSH.out.trans hs2).trans (Shape.setCell w2 g (j * 3 + 2) (.int .i64 (r + 1 + 2 * (x.parts.length : Int)))))
      clear hW2 hg2 hs2 hrow4 hc1 hc2 hc3 hf
      go_wp2_with fail
      go_roundw
      case rel => exact ⟨j + 1, _, hlt, by omega, by omega, rfl, by go_num, HO3.out, HW3.out, HSH2.out, HIP2.out⟩
      case measure => simp [intOf]; omega
    · go_wp2_with fail
      refine bodyPost_ret (results_tmp rfl _ _ _) rfl ⟨r, rfl, hr0, by omega, hW, hSh, hIP⟩

theorem OwnTblsIn.kept {w w' : World} {lo hi g : Nat} {l : List Tbl} (h : OwnTblsIn w lo hi g l) (hs : Shape w w') (hk : w'.heap[g]? = w.heap[g]?) : OwnTblsIn w' lo hi g l := by
  obtain ⟨G, H, h0, ⟨f, hf, hc⟩, h2⟩ := h
  refine ⟨G, H, h0, ⟨f, hf.of_block hk, hc⟩, fun i x hx => ?_⟩
  obtain ⟨⟨a, b, f', hf'⟩, c, d, f2, hf2⟩ := h2 i x hx
  exact ⟨⟨a, b, hs _ _ _ _ hf'⟩, c, d, hs _ _ _ _ hf2⟩
theorem rowIs_ne {w : World} {a b n m : Nat} {t u : TypeId} {f g : Nat → Value} (h : w.rowIs a t n f) (k : w.rowIs b u m g) (hne : t ≠ u) : a ≠ b := by
  intro e
  subst e
  obtain ⟨cs, h1, _, _⟩ := h
  obtain ⟨cs', k1, _, _⟩ := k
  rw [h1] at k1
  injection k1 with k1
  injection k1 with _ e _
  exact hne e
theorem Within.belowAfter {lo hi : Nat} {a w w' : World} (h : Within lo hi a w) (hb : Below w.heap.size w w') : Within lo hi a w' :=
  ⟨hb.os.trans h.os, hb.tape.trans h.tape, hb.output.trans h.output, Nat.le_trans h.size hb.size, fun k hk ho => (hb.block k (Nat.lt_of_lt_of_le hk h.size)).trans (h.block k hk ho)⟩
theorem Within.transW {lo hi : Nat} {a b c : World} (h : Within lo hi a b) (k : Within lo hi b c) : Within lo hi a c :=
  ⟨k.os.trans h.os, k.tape.trans h.tape, k.output.trans h.output, Nat.le_trans h.size k.size, fun x hx ho => (k.block x (Nat.lt_of_lt_of_le hx h.size) ho).trans (h.block x hx ho)⟩

/-- A house that the call itself laid, between blocks lo and hi. -/
structure HseIn (w : World) (lo hi gA gB gC gD : Nat) (h : Hse) : Prop where
  items : OwnIn w lo hi gA h.items
  prices : (lo ≤ gB ∧ gB < hi) ∧ ∃ f, w.rowIs gB 3 h.prices.length f
  stock : (lo ≤ gC ∧ gC < hi) ∧ ∃ f, w.rowIs gC 3 h.stock.length f
  tables : OwnTblsIn w lo hi gD h.tables
theorem OwnHse.toIn {w : World} {lo gA gB gC gD : Nat} {h : Hse} (hO : OwnHse w gA gB gC gD h) (hA : lo ≤ gA) (hB : lo ≤ gB) (hC : lo ≤ gC) (hD : lo ≤ gD) : HseIn w lo w.heap.size gA gB gC gD h :=
  ⟨hO.items.toIn hA, ⟨⟨hB, World.rowIs.lt hO.prices⟩, _, hO.prices⟩, ⟨⟨hC, World.rowIs.lt hO.stock⟩, _, hO.stock⟩, hO.tables.toIn hD rfl⟩
theorem HseIn.below {w w' : World} {lo hi gA gB gC gD : Nat} {h : Hse} (x : HseIn w lo hi gA gB gC gD h) (hb : Below w.heap.size w w') : HseIn w' lo hi gA gB gC gD h := by
  obtain ⟨h1, ⟨h2, f, h3⟩, ⟨h4, f', h5⟩, h6⟩ := x
  exact ⟨h1.below hb, ⟨h2, f, h3.of_block (hb.block _ h3.lt)⟩, ⟨h4, f', h5.of_block (hb.block _ h5.lt)⟩, h6.below hb⟩
/-- What lies outside is kept. -/
theorem Within.row {lo hi l0 size n : Nat} {w w' : World} {e : TypeId} {v : Value} {xs : List Value} (h : Within lo hi w w') (hS : w.ownsRow l0 e size v n xs) (ho : ∀ k, v.ownBlock = some k → k < lo ∨ hi ≤ k) : w'.ownsRow l0 e size v n xs := by
  refine ⟨hS.1, ?_⟩
  rcases hS.2 with hn | ⟨g, cap, cur, rfl, hb, hgg, rest⟩
  · exact .inl hn
  · exact .inr ⟨g, cap, cur, rfl, hb, (h.block g (Array.getElem?_eq_some_iff.1 hgg).1 (ho g rfl)).trans hgg, rest⟩

set_option maxHeartbeats 4000000 in
theorem markHouse_in (lo hi gA gB gC gD : Nat) (h : Hse) (w : World) (hO : HseIn w lo hi gA gB gC gD h) (hhi : hi ≤ w.heap.size) (hl : HseLe 1048576 h) :
    Calls Tryd.prog 14 #[hseV (some ⟨gA, 0, none⟩) h.items.length (some ⟨gB, 0, none⟩) h.prices.length (some ⟨gC, 0, none⟩) h.stock.length (some ⟨gD, 0, none⟩) h.tables.length h, .int .i64 1] w fun e w' =>
      ∃ r : Int, e = .returned (.int .i64 r) ∧ 0 ≤ r ∧ Within lo hi w w' := by
  have hI := hO.items
  have hT := hO.tables
  obtain ⟨⟨hB, hPl⟩, f1, hP⟩ := hO.prices
  obtain ⟨⟨hC, hSl⟩, f2, hS⟩ := hO.stock
  clear hO
  have hba : Below w.heap.size w (w.alloc (.cells #[.slice (some ⟨gA, 0, none⟩) h.items.length h.items.length, .slice (some ⟨gB, 0, none⟩) h.prices.length h.prices.length, .slice (some ⟨gC, 0, none⟩) h.stock.length h.stock.length, .int .i64 h.cash, .slice (some ⟨gD, 0, none⟩) h.tables.length h.tables.length] 33)) := by go_grown
  have hbx := heap_alloc_new w (.cells #[.slice (some ⟨gA, 0, none⟩) h.items.length h.items.length, .slice (some ⟨gB, 0, none⟩) h.prices.length h.prices.length, .slice (some ⟨gC, 0, none⟩) h.stock.length h.stock.length, .int .i64 h.cash, .slice (some ⟨gD, 0, none⟩) h.tables.length h.tables.length] 33)
  obtain ⟨hl1, hl2, hl3, hl4, hl5, hl6⟩ := hl
  unfold hseV
  go_enter Tryd.func14, Tryd.ntmps14
  go_upto_region 1 with fail
  obtain ⟨W, hW⟩ : ∃ W, w.alloc (.cells #[.slice (some ⟨gA, 0, none⟩) h.items.length h.items.length, .slice (some ⟨gB, 0, none⟩) h.prices.length h.prices.length, .slice (some ⟨gC, 0, none⟩) h.stock.length h.stock.length, .int .i64 h.cash, .slice (some ⟨gD, 0, none⟩) h.tables.length h.tables.length] 33) = W := ⟨_, rfl⟩
  rw [hW] at hba hbx ⊢
  clear hW
  have HW0 := hide (((Within.refl lo hi w)).belowAfter hba)
  have HI := hide (hI.below hba)
  have HT := hide (hT.below hba)
  have HP := hide (hP.of_block (hba.block _ hP.lt))
  have HS := hide (hS.of_block (hba.block _ hS.lt))
  obtain ⟨c0, c1, c2, c3, c4⟩ := five_cells hbx
  clear hI hT hP hS hba
  go_wp2_with fail
  refine (markItemS_bh _ _ _ _ _ _ HI.out hl1 (by assumption)).mono ?_
  rintro e w1 ⟨r1, rfl, hr10, hr11, hW1, hS1, hO1⟩
  have hx1 := (hW1.block w.heap.size (heap_ltH hbx) (.inr hhi)).trans hbx
  have hWa := HW0.out.transW hW1
  obtain ⟨fP, hP1⟩ := hS1 _ _ _ _ HP.out
  obtain ⟨fS, hQ1⟩ := hS1 _ _ _ _ HS.out
  have hT1 := HT.out.kept hS1 (by
    obtain ⟨_, _, _, ⟨_, ⟨cs, hcs, _, _⟩, _⟩, _⟩ := HT.out
    exact hO1 gD cs _ _ hcs (by decide) (by decide))
  have HX1 := hide hx1
  have HWa := hide hWa
  have HP1 := hide hP1
  have HQ1 := hide hQ1
  have HT1 := hide hT1
  clear c0 c1 c2 c3 c4 hbx hW1 hS1 hO1 hx1 hWa hP1 hQ1 hT1 HI HT HP HS HW0
  obtain ⟨c0, c1, c2, c3, c4⟩ := five_cells HX1.out
  go_wp2_with fail
  refine (markIntR_any _ _ _ _ _ _ HP1.out hl3 (by omega) (by omega)).mono ?_
  rintro e w2 ⟨rfl, hg2, hS2⟩
  have HX2 := hide ((hg2.block w.heap.size (heap_ltH HX1.out) (fun e => by injection e with e; omega)).trans HX1.out)
  have HWb := hide (HWa.out.grown hg2 hB hPl)
  obtain ⟨fQ, hQ2⟩ := hS2 _ _ _ _ HQ1.out
  have HQ2 := hide hQ2
  have HT2 := hide (HT1.out.shape hS2 hg2 (by
    obtain ⟨_, _, _, ⟨_, hr, _⟩, _⟩ := HT1.out
    exact rowIs_ne hr HP1.out (by decide)))
  clear c0 c1 c2 c3 c4 hg2 hS2 hQ2 HX1 HWa HP1 HQ1 HT1
  obtain ⟨c0, c1, c2, c3, c4⟩ := five_cells HX2.out
  go_wp2_with fail
  refine (markIntR_any _ _ _ _ _ _ HQ2.out hl4 (by omega) (by omega)).mono ?_
  rintro e w3 ⟨rfl, hg3, hS3⟩
  have HX3 := hide ((hg3.block w.heap.size (heap_ltH HX2.out) (fun e => by injection e with e; omega)).trans HX2.out)
  have HWc := hide (HWb.out.grown hg3 hC hSl)
  have HT3 := hide (HT2.out.shape hS3 hg3 (by
    obtain ⟨_, _, _, ⟨_, hr, _⟩, _⟩ := HT2.out
    exact rowIs_ne hr HQ2.out (by decide)))
  clear c0 c1 c2 c3 c4 hg3 hS3 HX2 HWb HQ2 HT2
  obtain ⟨c0, c1, c2, c3, c4⟩ := five_cells HX3.out
  go_wp2_with fail
  refine (markTableS_bd _ _ _ _ _ _ _ HT3.out hl5 hl6 (by omega) (by omega)).mono ?_
  rintro e w4 ⟨r4, rfl, hr40, hW4⟩
  have HWd := hide (HWc.out.transW hW4)
  clear c0 c1 c2 c3 c4 hW4 HX3 HWc HT3
  go_wp2_with fail
  go_ret
  exact ⟨r4, rfl, hr40, HWd.out⟩
end Go.Proofs.YtmepnilnlpoodaaDoor
