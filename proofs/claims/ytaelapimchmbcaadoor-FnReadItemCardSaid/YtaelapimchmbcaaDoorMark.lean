/- Contracts of the marking and asking helpers of the exact laws: what is marked is the call's own memory, and nothing else has changed.
   Conditions: the bounds in each statement. -/
import Derived.Test.YtaelapimchmbcaaDoorFree
namespace Go.Proofs.YtaelapimchmbcaaDoor
open Go.RowKit

def seqI (n : Nat) : List Int := (List.range n).map (fun (i : Nat) => (i : Int) + 1)

theorem seqI_len (n : Nat) : (seqI n).length = n := by simp [seqI]
theorem seqI_at {n i : Nat} (h : i < n) : (seqI n)[i]? = some ((i : Int) + 1) := by simp [seqI, h]

theorem eq_seqI {ys : List Int} {n : Nat} (hn : ys.length = n) (h : ∀ i, i < n → ys[i]? = some ((i : Int) + 1)) : ys = seqI n := by
  apply List.ext_getElem?
  intro i
  by_cases hi : i < n
  · rw [h i hi, seqI_at hi]
  · rw [List.getElem?_eq_none (by omega), List.getElem?_eq_none (by rw [seqI_len]; omega)]

/-- Rows stay rows of as many cells. -/
def Shape (w w' : World) : Prop := ∀ b t n f, w.rowIs b t n f → ∃ f', w'.rowIs b t n f'

theorem Shape.refl (w : World) : Shape w w := fun _ _ _ f h => ⟨f, h⟩
theorem Shape.trans {a b c : World} (h : Shape a b) (k : Shape b c) : Shape a c := fun x t n f hf => by
  obtain ⟨f1, h1⟩ := h x t n f hf
  exact k x t n f1 h1
theorem Shape.setCell (w : World) (g i : Nat) (v : Value) : Shape w (w.setCell ⟨g, i, none⟩ v) := fun b t n f h => by
  by_cases e : b = g
  · subst e
    exact ⟨_, h.set i v⟩
  · exact ⟨f, h.setOther e v⟩

theorem grown_set (w : World) (g i : Nat) (v : Value) : w.grownBy (w.setCell ⟨g, i, none⟩ v) (some g) :=
  ⟨rfl, rfl, rfl, by simp [World.setCell], fun k _ hk => Below.heap_setCell w ⟨g, i, none⟩ v k (fun e => hk (by rw [e]))⟩

set_option maxHeartbeats 400000 in
theorem markPartS_any (g n c : Nat) (k0 : Int) (f : Nat → Value) (w : World) (h : w.rowIs g 48 (n * 2) f) (hn : n ≤ 1048576) (hk0 : 0 ≤ k0) (hk1 : k0 ≤ 10000000000000) :
    Calls Tryd.prog 36 #[.slice (some ⟨g, 0, none⟩) n c, .int .i64 k0] w fun e w' => e = .returned (.int .i64 (k0 + 2 * (n : Int))) ∧ w.grownBy w' (some g) ∧ Shape w w' := by
  go_enter Tryd.func36, Tryd.ntmps36
  go_wp2_with fail
  go_loopw [1, 5] (fun kv i wr => ∃ (j : Nat), j ≤ n ∧ kv = .int .i64 (k0 + 2 * j) ∧ i = .int .i64 j ∧ w.grownBy wr (some g) ∧ Shape w wr) (fun _ i _ => n - (intOf i).toNat)
  case atStart => exact ⟨0, by omega, by simp, rfl, World.grownBy.refl _ _, Shape.refl _⟩
  case round =>
    obtain ⟨j, hj, rfl, rfl, hg, hs⟩ := hrel
    obtain ⟨f1, hrow⟩ := hs _ _ _ _ h
    by_cases hlt : j < n
    · have hz : (0 : Int) ≤ j := by omega
      have hz2 : (j : Int) < n := by omega
      have hq1 := hrow.cell (i := j * 2) (by omega)
      have hq2 := hrow.cell (i := j * 2 + 1) (by omega)
      have hf := hrow.frozen
      have HG := hide (((hg.trans (grown_set _ g (j * 2) (.int .i64 (k0 + 2 * j)))).trans (grown_set _ g (j * 2 + 1) (.int .i64 (k0 + 2 * j + 1)))))
      have HS := hide ((hs.trans (Shape.setCell _ g (j * 2) (.int .i64 (k0 + 2 * j)))).trans (Shape.setCell _ g (j * 2 + 1) (.int .i64 (k0 + 2 * j + 1))))
      have hne : ¬ (j * 2 + 1 = j * 2) := by omega
      clear hrow hg hs
      go_wp2_with fail
      go_roundw
      case rel => exact ⟨j + 1, hlt, by go_num, by go_num, HG.out, HS.out⟩
      case measure => simp [intOf]; omega
    · obtain rfl : n = j := by omega
      go_wp2_with fail
      go_ret
      exact ⟨rfl, hg, hs⟩

/-- The items that the call itself laid, between blocks lo and hi. -/
def OwnIn (w : World) (lo hi g : Nat) (l : List Item) : Prop :=
  ∃ G : Nat → Nat, (lo ≤ g ∧ g < hi) ∧ (∃ f, w.rowIs g 25 (l.length * 3) f ∧ ∀ i x, l[i]? = some x → f (i * 3 + 1) = .slice (some ⟨G i, 0, none⟩) x.parts.length x.parts.length) ∧
    ∀ i x, l[i]? = some x → g < G i ∧ G i < hi ∧ ∃ f, w.rowIs (G i) 48 (x.parts.length * 2) f

/-- Of what lies outside blocks lo to hi nothing has changed. -/
structure Within (lo hi : Nat) (w w' : World) : Prop where
  os : w'.os = w.os
  tape : w'.tape = w.tape
  output : w'.output = w.output
  size : w.heap.size ≤ w'.heap.size
  block : ∀ k, k < w.heap.size → (k < lo ∨ hi ≤ k) → w'.heap[k]? = w.heap[k]?

theorem Within.refl (lo hi : Nat) (w : World) : Within lo hi w w := ⟨rfl, rfl, rfl, Nat.le_refl _, fun _ _ _ => rfl⟩
theorem Within.grown {lo hi g : Nat} {a w w' : World} (h : Within lo hi a w) (hg : w.grownBy w' (some g)) (h0 : lo ≤ g) (h1 : g < hi) : Within lo hi a w' :=
  ⟨hg.os.trans h.os, hg.tape.trans h.tape, hg.output.trans h.output, Nat.le_trans h.size hg.size, fun k hk ho =>
    (hg.block k (Nat.lt_of_lt_of_le hk h.size) (fun e => by injection e with e; omega)).trans (h.block k hk ho)⟩
theorem Within.below {lo hi B : Nat} {w w' : World} (h : Within lo hi w w') (hB : B ≤ lo) (hs : B ≤ w.heap.size) : Below B w w' :=
  ⟨h.os, h.tape, h.output, h.size, fun k hk => h.block k (by omega) (.inl (by omega))⟩
theorem Within.intSl {lo hi lo' : Nat} {w w' : World} {v : Value} {xs : List Int} (h : Within lo hi w w') (hS : IntSl w lo' v xs) (ho : ∀ k, v.ownBlock = some k → k < lo ∨ hi ≤ k) : IntSl w' lo' v xs := by
  have hlt := hS.lt
  obtain ⟨h1, h2⟩ := hS
  refine ⟨h1, ?_⟩
  rcases h2 with hn | ⟨g, cap, cur, rfl, hb0, hg, r⟩
  · exact .inl hn
  · exact .inr ⟨g, cap, cur, rfl, hb0, (h.block g (hlt g rfl).2 (ho g rfl)).trans hg, r⟩

theorem OwnItems.toIn {w : World} {lo g : Nat} {l : List Item} (h : OwnItems w g l) (h0 : lo ≤ g) : OwnIn w lo w.heap.size g l := by
  obtain ⟨G, h1, h2⟩ := h
  refine ⟨G, ⟨h0, h1.lt⟩, ⟨_, h1, fun i x hx => itemCell1 hx⟩, fun i x hx => ?_⟩
  obtain ⟨a, b⟩ := h2 i x hx
  exact ⟨a, World.rowIs.lt b, _, b⟩

theorem OwnIn.below {w w' : World} {lo hi g : Nat} {l : List Item} (h : OwnIn w lo hi g l) (hb : Below w.heap.size w w') : OwnIn w' lo hi g l := by
  obtain ⟨G, h0, ⟨f, hf, hc⟩, h2⟩ := h
  refine ⟨G, h0, ⟨f, hf.of_block (hb.block _ hf.lt), hc⟩, fun i x hx => ?_⟩
  obtain ⟨a, b, f', hf'⟩ := h2 i x hx
  exact ⟨a, b, f', hf'.of_block (hb.block _ hf'.lt)⟩

theorem OwnIn.set {w : World} {lo hi g : Nat} {l : List Item} (h : OwnIn w lo hi g l) (j : Nat) (hj : j % 3 ≠ 1) (v : Value) : OwnIn (w.setCell ⟨g, j, none⟩ v) lo hi g l := by
  obtain ⟨G, h0, ⟨f, hf, hc⟩, h2⟩ := h
  refine ⟨G, h0, ⟨_, hf.set j v, fun i x hx => ?_⟩, fun i x hx => ?_⟩
  · show (if i * 3 + 1 = j then v else f (i * 3 + 1)) = _
    rw [if_neg (by omega)]
    exact hc i x hx
  · obtain ⟨a, b, f', hf'⟩ := h2 i x hx
    exact ⟨a, b, f', hf'.setOther (by show G i ≠ g; omega) v⟩

theorem OwnIn.shape {w w' : World} {lo hi g g' : Nat} {l : List Item} (h : OwnIn w lo hi g l) (hs : Shape w w') (hg : w.grownBy w' (some g')) (hne : g ≠ g') : OwnIn w' lo hi g l := by
  obtain ⟨G, h0, ⟨f, hf, hc⟩, h2⟩ := h
  refine ⟨G, h0, ⟨f, hf.of_block (hg.block _ hf.lt (fun e => by injection e with e; exact hne e)), hc⟩, fun i x hx => ?_⟩
  obtain ⟨a, b, f', hf'⟩ := h2 i x hx
  exact ⟨a, b, hs _ _ _ _ hf'⟩

end Go.Proofs.YtaelapimchmbcaaDoor
