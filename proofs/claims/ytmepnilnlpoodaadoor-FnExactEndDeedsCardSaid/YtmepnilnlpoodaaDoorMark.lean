/- Contracts of the marking and asking helpers of the exact laws: what is marked is the call's own memory, and nothing else has changed.
   Conditions: the bounds in each statement. -/
import Derived.Test.YtmepnilnlpoodaaDoorFree
namespace Go.Proofs.YtmepnilnlpoodaaDoor
open Go.RowKit

def seqI (n : Nat) : List Int := (List.range n).map (fun (i : Nat) => (i : Int) + 1)

theorem seqI_len (n : Nat) : (seqI n).length = n := by simp [seqI]
theorem seqI_at {n i : Nat} (h : i < n) : (seqI n)[i]? = some ((i : Int) + 1) := by simp [seqI, h]

theorem eq_seqI {ys : List Int} {n : Nat} (hn : ys.length = n) (h : ∀ i, i < n → ys[i]? = some ((i : Int) + 1)) : ys = seqI n := by
  apply List.ext_getElem?
  intro i
  by_cases hi : i < n
  · rw [h i hi, seqI_at hi]
  · rw [List.getElem?_eq_none (by omega), List.getElem?_eq_none (by rw [seqI_len]; omega)]

set_option maxHeartbeats 400000 in
theorem markIntS_one (lo : Nat) (A : Option Addr) (c : Nat) (xs : List Int) (w : World) (h : IntSl w lo (.slice A xs.length c) xs) (hn : xs.length ≤ 1048576) :
    Calls Tryd.prog 45 #[.slice A xs.length c, .int .i64 1] w fun e w' => e = .returned (.int .i64 (1 + (xs.length : Int))) ∧ IntSl w' lo (.slice A xs.length c) (seqI xs.length) ∧ w.grownBy w' (Value.slice A xs.length c).ownBlock := by
  rcases Nat.eq_zero_or_pos xs.length with h0 | h0
  · have hnil : xs = [] := List.eq_nil_of_length_eq_zero h0
    subst hnil
    simp only [List.length_nil] at *
    go_enter Tryd.func45, Tryd.ntmps45
    go_wp2_with fail
    go_loopw [1, 5] (fun kv i wr => kv = .int .i64 1 ∧ i = .int .i64 0 ∧ wr = w) (fun _ _ _ => 0)
    case atStart => exact ⟨rfl, rfl, rfl⟩
    case round =>
      obtain ⟨rfl, rfl, rfl⟩ := hrel
      go_wp2_with fail
      go_ret
      exact ⟨rfl, h, World.grownBy.refl _ _⟩
  · obtain ⟨g, rfl⟩ : ∃ g, A = some ⟨g, 0, none⟩ := by
      rcases h.2 with ⟨hv, hz⟩ | ⟨g, cap, cur, hv, _⟩
      · omega
      · injection hv with hv
        exact ⟨g, hv⟩
    have HN : Hid (xs.length = xs.length) := hide rfl
    go_enter Tryd.func45, Tryd.ntmps45
    go_wp2_with fail
    go_loopw [1, 5] (fun kv i wr => ∃ (k : Nat) (ys : List Int), k ≤ xs.length ∧ kv = .int .i64 (1 + k) ∧ i = .int .i64 k ∧ Hid (ys.length = xs.length) ∧ Hid (∀ i, i < k → ys[i]? = some ((i : Int) + 1)) ∧ wr.ownsRow lo 3 1 (.slice (some ⟨g, 0, none⟩) xs.length c) xs.length (ys.map (Value.int .i64)) ∧ w.grownBy wr (some g)) (fun _ i _ => xs.length - (intOf i).toNat)
    case atStart => exact ⟨0, xs, by omega, rfl, rfl, hide rfl, hide (fun i hi => absurd hi (by omega)), h, World.grownBy.refl _ _⟩
    case round =>
      obtain ⟨k, ys, hk, rfl, rfl, HL, HY, hO, hg⟩ := hrel
      by_cases hlt : k < xs.length
      · have hz : (0 : Int) ≤ k := by omega
        have hz2 : (k : Int) < xs.length := by omega
        have hc1 : wr.cell? ⟨g, k, none⟩ = some (.int .i64 (ys.getD k 0)) := by
          rw [World.ownsRow.cellAt hO k (by omega)]
          simp [show k < ys.length from by rw [HL.out]; exact hlt]
        have hf1 := World.ownsRow.frozenAt hO k
        have hst := hide (World.ownsRow.stored hO k (.int .i64 (1 + (k : Int))))
        go_wp2_with fail
        go_roundw
        case rel =>
          refine ⟨k + 1, ys.set k (1 + (k : Int)), hlt, by go_num, by go_num, hide (by rw [List.length_set]; exact HL.out), hide (fun i hi => ?_), ?_, hg.trans hst.out.2⟩
          · by_cases e : i = k
            · subst e
              rw [List.getElem?_set_self (by rw [HL.out]; exact hlt)]
              congr 1
              omega
            · rw [List.getElem?_set_ne (fun h => e h.symm)]
              exact HY.out i (by omega)
          · rw [List.map_set]
            exact hst.out.1
        case measure => simp [intOf]; omega
      · have HE : Hid (ys = seqI xs.length) := hide (eq_seqI HL.out (fun i hi => HY.out i (by omega)))
        go_wp2_with fail
        go_ret
        refine ⟨?_, ?_, hg⟩
        · have : k = xs.length := by omega
          subst this
          rfl
        · rw [← HE.out]
          unfold IntSl
          rw [HL.out]
          exact hO

/-- Rows stay rows of as many cells. -/
def Shape (w w' : World) : Prop := ∀ b t n f, w.rowIs b t n f → ∃ f', w'.rowIs b t n f'

theorem Shape.refl (w : World) : Shape w w := fun _ _ _ f h => ⟨f, h⟩
theorem Shape.trans {a b c : World} (h : Shape a b) (k : Shape b c) : Shape a c := fun x t n f hf => by
  obtain ⟨f1, h1⟩ := h x t n f hf
  exact k x t n f1 h1
theorem Shape.setCell (w : World) (g i : Nat) (v : Value) : Shape w (w.setCell ⟨g, i, none⟩ v) := fun b t n f h => by
  by_cases e : b = g
  · subst e
    exact ⟨_, h.set i v⟩
  · exact ⟨f, h.setOther e v⟩

theorem grown_set (w : World) (g i : Nat) (v : Value) : w.grownBy (w.setCell ⟨g, i, none⟩ v) (some g) :=
  ⟨rfl, rfl, rfl, by simp [World.setCell], fun k _ hk => Below.heap_setCell w ⟨g, i, none⟩ v k (fun e => hk (by rw [e]))⟩

set_option maxHeartbeats 400000 in
theorem markPartS_any (g n c : Nat) (k0 : Int) (f : Nat → Value) (w : World) (h : w.rowIs g 130 (n * 2) f) (hn : n ≤ 1048576) (hk0 : 0 ≤ k0) (hk1 : k0 ≤ 10000000000000) :
    Calls Tryd.prog 82 #[.slice (some ⟨g, 0, none⟩) n c, .int .i64 k0] w fun e w' => e = .returned (.int .i64 (k0 + 2 * (n : Int))) ∧ w.grownBy w' (some g) ∧ Shape w w' := by
  go_enter Tryd.func82, Tryd.ntmps82
  go_wp2_with fail
  go_loopw [1, 5] (fun kv i wr => ∃ (j : Nat), j ≤ n ∧ kv = .int .i64 (k0 + 2 * j) ∧ i = .int .i64 j ∧ w.grownBy wr (some g) ∧ Shape w wr) (fun _ i _ => n - (intOf i).toNat)
  case atStart => exact ⟨0, by omega, by simp, rfl, World.grownBy.refl _ _, Shape.refl _⟩
  case round =>
    obtain ⟨j, hj, rfl, rfl, hg, hs⟩ := hrel
    obtain ⟨f1, hrow⟩ := hs _ _ _ _ h
    by_cases hlt : j < n
    · have hz : (0 : Int) ≤ j := by omega
      have hz2 : (j : Int) < n := by omega
      have hq1 := hrow.cell (i := j * 2) (by omega)
      have hq2 := hrow.cell (i := j * 2 + 1) (by omega)
      have hf := hrow.frozen
      have HG := hide (((hg.trans (grown_set _ g (j * 2) (.int .i64 (k0 + 2 * j)))).trans (grown_set _ g (j * 2 + 1) (.int .i64 (k0 + 2 * j + 1)))))
      have HS := hide ((hs.trans (Shape.setCell _ g (j * 2) (.int .i64 (k0 + 2 * j)))).trans (Shape.setCell _ g (j * 2 + 1) (.int .i64 (k0 + 2 * j + 1))))
      have hne : ¬ (j * 2 + 1 = j * 2) := by omega
      clear hrow hg hs
      go_wp2_with fail
      go_roundw
      case rel => exact ⟨j + 1, hlt, by go_num, by go_num, HG.out, HS.out⟩
      case measure => simp [intOf]; omega
    · obtain rfl : n = j := by omega
      go_wp2_with fail
      go_ret
      exact ⟨rfl, hg, hs⟩

/-- The items that the call itself laid, between blocks lo and hi. -/
def OwnIn (w : World) (lo hi g : Nat) (l : List Item) : Prop :=
  ∃ G : Nat → Nat, (lo ≤ g ∧ g < hi) ∧ (∃ f, w.rowIs g 124 (l.length * 3) f ∧ ∀ i x, l[i]? = some x → f (i * 3 + 1) = .slice (some ⟨G i, 0, none⟩) x.parts.length x.parts.length) ∧
    ∀ i x, l[i]? = some x → g < G i ∧ G i < hi ∧ ∃ f, w.rowIs (G i) 130 (x.parts.length * 2) f

/-- Of what lies outside blocks lo to hi nothing has changed. -/
structure Within (lo hi : Nat) (w w' : World) : Prop where
  os : w'.os = w.os
  tape : w'.tape = w.tape
  output : w'.output = w.output
  size : w.heap.size ≤ w'.heap.size
  block : ∀ k, k < w.heap.size → (k < lo ∨ hi ≤ k) → w'.heap[k]? = w.heap[k]?

theorem Within.refl (lo hi : Nat) (w : World) : Within lo hi w w := ⟨rfl, rfl, rfl, Nat.le_refl _, fun _ _ _ => rfl⟩
theorem Within.grown {lo hi g : Nat} {a w w' : World} (h : Within lo hi a w) (hg : w.grownBy w' (some g)) (h0 : lo ≤ g) (h1 : g < hi) : Within lo hi a w' :=
  ⟨hg.os.trans h.os, hg.tape.trans h.tape, hg.output.trans h.output, Nat.le_trans h.size hg.size, fun k hk ho =>
    (hg.block k (Nat.lt_of_lt_of_le hk h.size) (fun e => by injection e with e; omega)).trans (h.block k hk ho)⟩
theorem Within.below {lo hi B : Nat} {w w' : World} (h : Within lo hi w w') (hB : B ≤ lo) (hs : B ≤ w.heap.size) : Below B w w' :=
  ⟨h.os, h.tape, h.output, h.size, fun k hk => h.block k (by omega) (.inl (by omega))⟩
theorem Within.intSl {lo hi lo' : Nat} {w w' : World} {v : Value} {xs : List Int} (h : Within lo hi w w') (hS : IntSl w lo' v xs) (ho : ∀ k, v.ownBlock = some k → k < lo ∨ hi ≤ k) : IntSl w' lo' v xs := by
  have hlt := hS.lt
  obtain ⟨h1, h2⟩ := hS
  refine ⟨h1, ?_⟩
  rcases h2 with hn | ⟨g, cap, cur, rfl, hb0, hg, r⟩
  · exact .inl hn
  · exact .inr ⟨g, cap, cur, rfl, hb0, (h.block g (hlt g rfl).2 (ho g rfl)).trans hg, r⟩

theorem OwnItems.toIn {w : World} {lo g : Nat} {l : List Item} (h : OwnItems w g l) (h0 : lo ≤ g) : OwnIn w lo w.heap.size g l := by
  obtain ⟨G, h1, h2⟩ := h
  refine ⟨G, ⟨h0, h1.lt⟩, ⟨_, h1, fun i x hx => itemCell1 hx⟩, fun i x hx => ?_⟩
  obtain ⟨a, b⟩ := h2 i x hx
  exact ⟨a, World.rowIs.lt b, _, b⟩

theorem OwnIn.below {w w' : World} {lo hi g : Nat} {l : List Item} (h : OwnIn w lo hi g l) (hb : Below w.heap.size w w') : OwnIn w' lo hi g l := by
  obtain ⟨G, h0, ⟨f, hf, hc⟩, h2⟩ := h
  refine ⟨G, h0, ⟨f, hf.of_block (hb.block _ hf.lt), hc⟩, fun i x hx => ?_⟩
  obtain ⟨a, b, f', hf'⟩ := h2 i x hx
  exact ⟨a, b, f', hf'.of_block (hb.block _ hf'.lt)⟩

theorem OwnIn.set {w : World} {lo hi g : Nat} {l : List Item} (h : OwnIn w lo hi g l) (j : Nat) (hj : j % 3 ≠ 1) (v : Value) : OwnIn (w.setCell ⟨g, j, none⟩ v) lo hi g l := by
  obtain ⟨G, h0, ⟨f, hf, hc⟩, h2⟩ := h
  refine ⟨G, h0, ⟨_, hf.set j v, fun i x hx => ?_⟩, fun i x hx => ?_⟩
  · show (if i * 3 + 1 = j then v else f (i * 3 + 1)) = _
    rw [if_neg (by omega)]
    exact hc i x hx
  · obtain ⟨a, b, f', hf'⟩ := h2 i x hx
    exact ⟨a, b, f', hf'.setOther (by show G i ≠ g; omega) v⟩

theorem OwnIn.shape {w w' : World} {lo hi g g' : Nat} {l : List Item} (h : OwnIn w lo hi g l) (hs : Shape w w') (hg : w.grownBy w' (some g')) (hne : g ≠ g') : OwnIn w' lo hi g l := by
  obtain ⟨G, h0, ⟨f, hf, hc⟩, h2⟩ := h
  refine ⟨G, h0, ⟨f, hf.of_block (hg.block _ hf.lt (fun e => by injection e with e; exact hne e)), hc⟩, fun i x hx => ?_⟩
  obtain ⟨a, b, f', hf'⟩ := h2 i x hx
  exact ⟨a, b, hs _ _ _ _ hf'⟩

set_option maxHeartbeats 1000000 in
theorem markItemS_one (lo hi g c : Nat) (l : List Item) (w : World) (h : OwnIn w lo hi g l) (hl : l.length ≤ 1048576) (hp : ∀ x ∈ l, x.parts.length ≤ 1048576) :
    Calls Tryd.prog 44 #[.slice (some ⟨g, 0, none⟩) l.length c, .int .i64 1] w fun e w' => ∃ r : Int, e = .returned (.int .i64 r) ∧ 0 ≤ r ∧ Within lo hi w w' := by
  have HP := hide hp
  clear hp
  go_enter Tryd.func44, Tryd.ntmps44
  go_wp2_with fail
  go_loopw [1, 5] (fun kv i wr => ∃ (j : Nat) (r : Int), j ≤ l.length ∧ 0 ≤ r ∧ r ≤ 1 + 2097154 * j ∧ kv = .int .i64 r ∧ i = .int .i64 j ∧ OwnIn wr lo hi g l ∧ Within lo hi w wr) (fun _ i _ => l.length - (intOf i).toNat)
  case atStart => exact ⟨0, 1, by omega, by omega, by omega, rfl, rfl, h, Within.refl _ _ _⟩
  case round =>
    obtain ⟨j, r, hj, hr0, hr1, rfl, rfl, hO, hW⟩ := hrel
    by_cases hlt : j < l.length
    · obtain ⟨G, hlo, ⟨f, hrow, hcs⟩, hrest⟩ := hO
      have hO : OwnIn wr lo hi g l := ⟨G, hlo, ⟨f, hrow, hcs⟩, hrest⟩
      have hx := List.getElem?_eq_getElem hlt
      have hpl := HP.out _ (List.getElem_mem hlt)
      obtain ⟨hgl, hgh, f2, hrow2⟩ := hrest j _ hx
      have hc1 := hrow.cell (i := j * 3) (by omega)
      have hc2 := hrow.cell (i := j * 3 + 1) (by omega)
      have hc3 := hrow.cell (i := j * 3 + 2) (by omega)
      rw [hcs j _ hx] at hc2
      have hf := hrow.frozen
      generalize l[j] = x at *
      generalize G j = q at *
      have hO1 := hO.set (j * 3) (by omega) (.int .i64 r)
      have hW1 := hW.grown (grown_set wr g (j * 3) (.int .i64 r)) hlo.1 hlo.2
      have hrow3 := hrow2.setOther (a := ⟨g, j * 3, none⟩) (by show q ≠ g; omega) (.int .i64 r)
      have HO1 := hide hO1
      have HW1 := hide hW1
      have HR3 := hide hrow3
      have HLO := hide hlo
      clear hO hW hrow2 hO1 hW1 hrow3 hrow hrest hcs hx
      have hz : (0 : Int) ≤ j := by omega
      have hz2 : (j : Int) < l.length := by omega
      go_wp2_with fail
      refine (markPartS_any _ _ _ _ _ _ HR3.out hpl (by omega) (by omega)).mono ?_
      rintro e w2 ⟨rfl, hg2, hs2⟩
      have hO2 := HO1.out.shape hs2 hg2 (by omega)
      have hW2 := HW1.out.grown hg2 (by have := HLO.out.1; omega) hgh
      have HO3 := hide (hO2.set (j * 3 + 2) (by omega) (.int .i64 (r + 1 + 2 * (x.parts.length : Int))))
      have HW3 := hide (hW2.grown (grown_set w2 g (j * 3 + 2) (.int .i64 (r + 1 + 2 * (x.parts.length : Int)))) HLO.out.1 HLO.out.2)
      obtain ⟨G2, _, ⟨f4, hrow4, _⟩, _⟩ := hO2
      have hd3 := hrow4.cell (i := j * 3 + 2) (by omega)
      have hf4 := hrow4.frozen
      clear hW2 hg2 hs2 hrow4 hc1 hc2 hc3 hf
      go_wp2_with fail
      go_roundw
      case rel => exact ⟨j + 1, _, hlt, by omega, by omega, rfl, by go_num, HO3.out, HW3.out⟩
      case measure => simp [intOf]; omega
    · go_wp2_with fail
      refine bodyPost_ret (results_tmp rfl _ _ _) rfl ⟨r, rfl, hr0, hW⟩
end Go.Proofs.YtmepnilnlpoodaaDoor
