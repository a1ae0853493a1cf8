/- Contract of the marking of tasks by the exact laws: only what the call itself laid is written.
   Conditions: the bounds in each statement. -/
import Derived.Test.YtgagfaajilbmmaaTasks
import Derived.Test.YtgagfaajilbmmaaMark
namespace Go.Proofs.Ytgagfaajilbmmaa
open Go.RowKit

set_option maxHeartbeats 400000 in
theorem markIntS_row (g n c : Nat) (k0 : Int) (f : Nat → Value) (w : World) (h : w.rowIs g 3 n f) (hn : n ≤ 1048576) (hk0 : 0 ≤ k0) (hk1 : k0 ≤ 10000000000000) :
    Calls Try.prog 21 #[.slice (some ⟨g, 0, none⟩) n c, .int .i64 k0] w fun e w' => e = .returned (.int .i64 (k0 + (n : Int))) ∧ w.grownBy w' (some g) ∧ Shape w w' := by
  go_enter Try.func21, Try.ntmps21
  go_wp2_with fail
  go_loopw [1, 5] (fun kv i wr => ∃ (j : Nat), j ≤ n ∧ kv = .int .i64 (k0 + j) ∧ i = .int .i64 j ∧ w.grownBy wr (some g) ∧ Shape w wr) (fun _ i _ => n - (intOf i).toNat)
  case atStart => exact ⟨0, by omega, by simp, rfl, World.grownBy.refl _ _, Shape.refl _⟩
  case round =>
    obtain ⟨j, hj, rfl, rfl, hg, hs⟩ := hrel
    obtain ⟨f1, hrow⟩ := hs _ _ _ _ h
    by_cases hlt : j < n
    · have hz : (0 : Int) ≤ j := by omega
      have hz2 : (j : Int) < n := by omega
      have hq1 := hrow.cell (i := j) (by omega)
      have hf := hrow.frozen
      have HG := hide ((hg.trans (grown_set _ g j (.int .i64 (k0 + j)))))
      have HS := hide ((hs.trans (Shape.setCell _ g j (.int .i64 (k0 + j)))))
      clear hrow hg hs
      go_wp2_with fail
      go_roundw
      case rel => exact ⟨j + 1, by omega, by go_num, by go_num, HG.out, HS.out⟩
      case measure => simp [intOf]; omega
    · obtain rfl : n = j := by omega
      go_wp2_with fail
      go_ret
      exact ⟨rfl, hg, hs⟩

/-- The tasks that the call itself laid, between blocks lo and hi. -/
def OwnInT (w : World) (lo hi g : Nat) (l : List Task) : Prop :=
  ∃ G : Nat → Nat, (lo ≤ g ∧ g < hi) ∧ (∃ f, w.rowIs g 68 (l.length * 2) f ∧ ∀ i x, l[i]? = some x → f (i * 2 + 1) = .slice (some ⟨G i, 0, none⟩) x.after.length x.after.length) ∧
    ∀ i x, l[i]? = some x → g < G i ∧ G i < hi ∧ ∃ f, w.rowIs (G i) 3 x.after.length f

theorem OwnTasks.toIn {w : World} {lo g : Nat} {l : List Task} (h : OwnTasks w g l) (h0 : lo ≤ g) : OwnInT w lo w.heap.size g l := by
  obtain ⟨G, h1, h2⟩ := h
  refine ⟨G, ⟨h0, h1.lt⟩, ⟨_, h1, fun i x hx => taskCell1 hx⟩, fun i x hx => ?_⟩
  obtain ⟨a, b⟩ := h2 i x hx
  exact ⟨a, World.rowIs.lt b, _, b⟩

theorem OwnInT.below {w w' : World} {lo hi g : Nat} {l : List Task} (h : OwnInT w lo hi g l) (hb : Below w.heap.size w w') : OwnInT w' lo hi g l := by
  obtain ⟨G, h0, ⟨f, hf, hc⟩, h2⟩ := h
  refine ⟨G, h0, ⟨f, hf.of_block (hb.block _ hf.lt), hc⟩, fun i x hx => ?_⟩
  obtain ⟨a, b, f', hf'⟩ := h2 i x hx
  exact ⟨a, b, f', hf'.of_block (hb.block _ hf'.lt)⟩

theorem OwnInT.set {w : World} {lo hi g : Nat} {l : List Task} (h : OwnInT w lo hi g l) (j : Nat) (hj : j % 2 ≠ 1) (v : Value) : OwnInT (w.setCell ⟨g, j, none⟩ v) lo hi g l := by
  obtain ⟨G, h0, ⟨f, hf, hc⟩, h2⟩ := h
  refine ⟨G, h0, ⟨_, hf.set j v, fun i x hx => ?_⟩, fun i x hx => ?_⟩
  · show (if i * 2 + 1 = j then v else f (i * 2 + 1)) = _
    rw [if_neg (by omega)]
    exact hc i x hx
  · obtain ⟨a, b, f', hf'⟩ := h2 i x hx
    exact ⟨a, b, f', hf'.setOther (by show G i ≠ g; omega) v⟩

theorem OwnInT.shape {w w' : World} {lo hi g g' : Nat} {l : List Task} (h : OwnInT w lo hi g l) (hs : Shape w w') (hg : w.grownBy w' (some g')) (hne : g ≠ g') : OwnInT w' lo hi g l := by
  obtain ⟨G, h0, ⟨f, hf, hc⟩, h2⟩ := h
  refine ⟨G, h0, ⟨f, hf.of_block (hg.block _ hf.lt (fun e => by injection e with e; exact hne e)), hc⟩, fun i x hx => ?_⟩
  obtain ⟨a, b, f', hf'⟩ := h2 i x hx
  exact ⟨a, b, hs _ _ _ _ hf'⟩

set_option maxHeartbeats 1000000 in
theorem markTaskS_one (lo hi g c : Nat) (l : List Task) (w : World) (h : OwnInT w lo hi g l) (hl : l.length ≤ 1048576) (hp : ∀ x ∈ l, x.after.length ≤ 1048576) :
    Calls Try.prog 20 #[.slice (some ⟨g, 0, none⟩) l.length c, .int .i64 1] w fun e w' => ∃ r : Int, e = .returned (.int .i64 r) ∧ 0 ≤ r ∧ Within lo hi w w' := by
  have HP := hide hp
  clear hp
  go_enter Try.func20, Try.ntmps20
  go_wp2_with fail
  go_loopw [1, 5] (fun kv i wr => ∃ (j : Nat) (r : Int), j ≤ l.length ∧ 0 ≤ r ∧ r ≤ 1 + 2097154 * j ∧ kv = .int .i64 r ∧ i = .int .i64 j ∧ OwnInT wr lo hi g l ∧ Within lo hi w wr) (fun _ i _ => l.length - (intOf i).toNat)
  case atStart => exact ⟨0, 1, by omega, by omega, by omega, rfl, rfl, h, Within.refl _ _ _⟩
  case round =>
    obtain ⟨j, r, hj, hr0, hr1, rfl, rfl, hO, hW⟩ := hrel
    by_cases hlt : j < l.length
    · obtain ⟨G, hlo, ⟨f, hrow, hcs⟩, hrest⟩ := hO
      have hO : OwnInT wr lo hi g l := ⟨G, hlo, ⟨f, hrow, hcs⟩, hrest⟩
      have hx := List.getElem?_eq_getElem hlt
      have hpl := HP.out _ (List.getElem_mem hlt)
      obtain ⟨hgl, hgh, f2, hrow2⟩ := hrest j _ hx
      have hc1 := hrow.cell (i := j * 2) (by omega)
      have hc2 := hrow.cell (i := j * 2 + 1) (by omega)
      rw [hcs j _ hx] at hc2
      have hf := hrow.frozen
      generalize l[j] = x at *
      generalize G j = q at *
      have hO1 := hO.set (j * 2) (by omega) (.int .i64 r)
      have hW1 := hW.grown (grown_set wr g (j * 2) (.int .i64 r)) hlo.1 hlo.2
      have hrow3 := hrow2.setOther (a := ⟨g, j * 2, none⟩) (by show q ≠ g; omega) (.int .i64 r)
      have HO1 := hide hO1
      have HW1 := hide hW1
      have HR3 := hide hrow3
      have HLO := hide hlo
      clear hO hW hrow2 hO1 hW1 hrow3 hrow hrest hcs hx
      have hz : (0 : Int) ≤ j := by omega
      have hz2 : (j : Int) < l.length := by omega
      go_wp2_with fail
      refine (markIntS_row _ _ _ _ _ _ HR3.out hpl (by omega) (by omega)).mono ?_
      rintro e w2 ⟨rfl, hg2, hs2⟩
      have HO2 := hide (HO1.out.shape hs2 hg2 (by omega))
      have HW2 := hide (HW1.out.grown hg2 (by have := HLO.out.1; omega) hgh)
      clear hg2 hs2 hc1 hc2 hf
      go_wp2_with fail
      go_roundw
      case rel => exact ⟨j + 1, _, hlt, by omega, by omega, rfl, by go_num, HO2.out, HW2.out⟩
      case measure => simp [intOf]; omega
    · go_wp2_with fail
      refine bodyPost_ret (results_tmp rfl _ _ _) rfl ⟨r, rfl, hr0, hW⟩
end Go.Proofs.Ytgagfaajilbmmaa
