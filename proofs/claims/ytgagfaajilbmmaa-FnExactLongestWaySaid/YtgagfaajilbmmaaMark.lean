/- Contracts of the marking and asking helpers of the exact laws: what is marked is the call's own memory, and nothing else has changed.
   Conditions: the bounds in each statement. -/
import Derived.Test.YtgagfaajilbmmaaFree
namespace Go.Proofs.Ytgagfaajilbmmaa
open Go.RowKit

def seqI (n : Nat) : List Int := (List.range n).map (fun (i : Nat) => (i : Int) + 1)

theorem seqI_len (n : Nat) : (seqI n).length = n := by simp [seqI]
theorem seqI_at {n i : Nat} (h : i < n) : (seqI n)[i]? = some ((i : Int) + 1) := by simp [seqI, h]

theorem eq_seqI {ys : List Int} {n : Nat} (hn : ys.length = n) (h : ∀ i, i < n → ys[i]? = some ((i : Int) + 1)) : ys = seqI n := by
  apply List.ext_getElem?
  intro i
  by_cases hi : i < n
  · rw [h i hi, seqI_at hi]
  · rw [List.getElem?_eq_none (by omega), List.getElem?_eq_none (by rw [seqI_len]; omega)]

set_option maxHeartbeats 400000 in
theorem markIntS_one (lo : Nat) (A : Option Addr) (c : Nat) (xs : List Int) (w : World) (h : IntSl w lo (.slice A xs.length c) xs) (hn : xs.length ≤ 1048576) :
    Calls Try.prog 21 #[.slice A xs.length c, .int .i64 1] w fun e w' => e = .returned (.int .i64 (1 + (xs.length : Int))) ∧ IntSl w' lo (.slice A xs.length c) (seqI xs.length) ∧ w.grownBy w' (Value.slice A xs.length c).ownBlock := by
  rcases Nat.eq_zero_or_pos xs.length with h0 | h0
  · have hnil : xs = [] := List.eq_nil_of_length_eq_zero h0
    subst hnil
    simp only [List.length_nil] at *
    go_enter Try.func21, Try.ntmps21
    go_wp2_with fail
    go_loopw [1, 5] (fun kv i wr => kv = .int .i64 1 ∧ i = .int .i64 0 ∧ wr = w) (fun _ _ _ => 0)
    case atStart => exact ⟨rfl, rfl, rfl⟩
    case round =>
      obtain ⟨rfl, rfl, rfl⟩ := hrel
      go_wp2_with fail
      go_ret
      exact ⟨rfl, h, World.grownBy.refl _ _⟩
  · obtain ⟨g, rfl⟩ : ∃ g, A = some ⟨g, 0, none⟩ := by
      rcases h.2 with ⟨hv, hz⟩ | ⟨g, cap, cur, hv, _⟩
      · omega
      · injection hv with hv
        exact ⟨g, hv⟩
    have HN : Hid (xs.length = xs.length) := hide rfl
    go_enter Try.func21, Try.ntmps21
    go_wp2_with fail
    go_loopw [1, 5] (fun kv i wr => ∃ (k : Nat) (ys : List Int), k ≤ xs.length ∧ kv = .int .i64 (1 + k) ∧ i = .int .i64 k ∧ Hid (ys.length = xs.length) ∧ Hid (∀ i, i < k → ys[i]? = some ((i : Int) + 1)) ∧ wr.ownsRow lo 3 1 (.slice (some ⟨g, 0, none⟩) xs.length c) xs.length (ys.map (Value.int .i64)) ∧ w.grownBy wr (some g)) (fun _ i _ => xs.length - (intOf i).toNat)
    case atStart => exact ⟨0, xs, by omega, rfl, rfl, hide rfl, hide (fun i hi => absurd hi (by omega)), h, World.grownBy.refl _ _⟩
    case round =>
      obtain ⟨k, ys, hk, rfl, rfl, HL, HY, hO, hg⟩ := hrel
      by_cases hlt : k < xs.length
      · have hz : (0 : Int) ≤ k := by omega
        have hz2 : (k : Int) < xs.length := by omega
        have hc1 : wr.cell? ⟨g, k, none⟩ = some (.int .i64 (ys.getD k 0)) := by
          rw [World.ownsRow.cellAt hO k (by omega)]
          simp [show k < ys.length from by rw [HL.out]; exact hlt]
        have hf1 := World.ownsRow.frozenAt hO k
        have hst := hide (World.ownsRow.stored hO k (.int .i64 (1 + (k : Int))))
        go_wp2_with fail
        go_roundw
        case rel =>
          refine ⟨k + 1, ys.set k (1 + (k : Int)), hlt, by go_num, by go_num, hide (by rw [List.length_set]; exact HL.out), hide (fun i hi => ?_), ?_, hg.trans hst.out.2⟩
          · by_cases e : i = k
            · subst e
              rw [List.getElem?_set_self (by rw [HL.out]; exact hlt)]
              congr 1
              omega
            · rw [List.getElem?_set_ne (fun h => e h.symm)]
              exact HY.out i (by omega)
          · rw [List.map_set]
            exact hst.out.1
        case measure => simp [intOf]; omega
      · have HE : Hid (ys = seqI xs.length) := hide (eq_seqI HL.out (fun i hi => HY.out i (by omega)))
        go_wp2_with fail
        go_ret
        refine ⟨?_, ?_, hg⟩
        · have : k = xs.length := by omega
          subst this
          rfl
        · rw [← HE.out]
          unfold IntSl
          rw [HL.out]
          exact hO

set_option maxHeartbeats 400000 in
theorem heldIntS_one (A : Option Addr) (c n : Nat) (w : World) (h : IntsAt w A (seqI n)) (hn : n ≤ 1048576) :
    Calls Try.prog 22 #[.slice A n c, .int .i64 1] w fun e w' => e = .returned (.int .i64 (1 + (n : Int))) ∧ w' = w := by
  go_enter Try.func22, Try.ntmps22
  go_wp2_with fail
  go_loopw [1, 5] (fun kv i wr => ∃ (k : Nat), k ≤ n ∧ kv = .int .i64 (1 + k) ∧ i = .int .i64 k ∧ wr = w) (fun _ i _ => n - (intOf i).toNat)
  case atStart => exact ⟨0, by omega, rfl, rfl, rfl⟩
  case round =>
    obtain ⟨k, hk, rfl, rfl, rfl⟩ := hrel
    by_cases hlt : k < n
    · obtain ⟨b, off, rfl, hbl, hc1⟩ := h k _ (seqI_at hlt)
      have hz : (0 : Int) ≤ k := by omega
      have hz2 : (k : Int) < n := by omega
      have he : ((k : Int) + 1 != 1 + (k : Int)) = false := by rw [Int.add_comm]; simp
      go_wp2_with fail
      go_roundw
      case rel => exact ⟨k + 1, hlt, by go_num, by go_num, trivial⟩
      case measure => simp [intOf]; omega
    · obtain rfl : n = k := by omega
      go_wp2_with fail
      go_ret
      exact ⟨rfl, rfl⟩

/-- Rows stay rows of as many cells. -/
def Shape (w w' : World) : Prop := ∀ b t n f, w.rowIs b t n f → ∃ f', w'.rowIs b t n f'

theorem Shape.refl (w : World) : Shape w w := fun _ _ _ f h => ⟨f, h⟩
theorem Shape.trans {a b c : World} (h : Shape a b) (k : Shape b c) : Shape a c := fun x t n f hf => by
  obtain ⟨f1, h1⟩ := h x t n f hf
  exact k x t n f1 h1
theorem Shape.setCell (w : World) (g i : Nat) (v : Value) : Shape w (w.setCell ⟨g, i, none⟩ v) := fun b t n f h => by
  by_cases e : b = g
  · subst e
    exact ⟨_, h.set i v⟩
  · exact ⟨f, h.setOther e v⟩

theorem grown_set (w : World) (g i : Nat) (v : Value) : w.grownBy (w.setCell ⟨g, i, none⟩ v) (some g) :=
  ⟨rfl, rfl, rfl, by simp [World.setCell], fun k _ hk => Below.heap_setCell w ⟨g, i, none⟩ v k (fun e => hk (by rw [e]))⟩

/-- The items that the call itself laid, between blocks lo and hi. -/
def OwnIn (w : World) (lo hi g : Nat) (l : List Item) : Prop :=
  ∃ G : Nat → Nat, (lo ≤ g ∧ g < hi) ∧ (∃ f, w.rowIs g 56 (l.length * 3) f ∧ ∀ i x, l[i]? = some x → f (i * 3 + 1) = .slice (some ⟨G i, 0, none⟩) x.parts.length x.parts.length) ∧
    ∀ i x, l[i]? = some x → g < G i ∧ G i < hi ∧ ∃ f, w.rowIs (G i) 58 (x.parts.length * 2) f

/-- Of what lies outside blocks lo to hi nothing has changed. -/
structure Within (lo hi : Nat) (w w' : World) : Prop where
  os : w'.os = w.os
  tape : w'.tape = w.tape
  output : w'.output = w.output
  size : w.heap.size ≤ w'.heap.size
  block : ∀ k, k < w.heap.size → (k < lo ∨ hi ≤ k) → w'.heap[k]? = w.heap[k]?

theorem Within.refl (lo hi : Nat) (w : World) : Within lo hi w w := ⟨rfl, rfl, rfl, Nat.le_refl _, fun _ _ _ => rfl⟩
theorem Within.grown {lo hi g : Nat} {a w w' : World} (h : Within lo hi a w) (hg : w.grownBy w' (some g)) (h0 : lo ≤ g) (h1 : g < hi) : Within lo hi a w' :=
  ⟨hg.os.trans h.os, hg.tape.trans h.tape, hg.output.trans h.output, Nat.le_trans h.size hg.size, fun k hk ho =>
    (hg.block k (Nat.lt_of_lt_of_le hk h.size) (fun e => by injection e with e; omega)).trans (h.block k hk ho)⟩
theorem Within.below {lo hi B : Nat} {w w' : World} (h : Within lo hi w w') (hB : B ≤ lo) (hs : B ≤ w.heap.size) : Below B w w' :=
  ⟨h.os, h.tape, h.output, h.size, fun k hk => h.block k (by omega) (.inl (by omega))⟩
theorem Within.intSl {lo hi lo' : Nat} {w w' : World} {v : Value} {xs : List Int} (h : Within lo hi w w') (hS : IntSl w lo' v xs) (ho : ∀ k, v.ownBlock = some k → k < lo ∨ hi ≤ k) : IntSl w' lo' v xs := by
  have hlt := hS.lt
  obtain ⟨h1, h2⟩ := hS
  refine ⟨h1, ?_⟩
  rcases h2 with hn | ⟨g, cap, cur, rfl, hb0, hg, r⟩
  · exact .inl hn
  · exact .inr ⟨g, cap, cur, rfl, hb0, (h.block g (hlt g rfl).2 (ho g rfl)).trans hg, r⟩

theorem OwnItems.toIn {w : World} {lo g : Nat} {l : List Item} (h : OwnItems w g l) (h0 : lo ≤ g) : OwnIn w lo w.heap.size g l := by
  obtain ⟨G, h1, h2⟩ := h
  refine ⟨G, ⟨h0, h1.lt⟩, ⟨_, h1, fun i x hx => itemCell1 hx⟩, fun i x hx => ?_⟩
  obtain ⟨a, b⟩ := h2 i x hx
  exact ⟨a, World.rowIs.lt b, _, b⟩

theorem OwnIn.below {w w' : World} {lo hi g : Nat} {l : List Item} (h : OwnIn w lo hi g l) (hb : Below w.heap.size w w') : OwnIn w' lo hi g l := by
  obtain ⟨G, h0, ⟨f, hf, hc⟩, h2⟩ := h
  refine ⟨G, h0, ⟨f, hf.of_block (hb.block _ hf.lt), hc⟩, fun i x hx => ?_⟩
  obtain ⟨a, b, f', hf'⟩ := h2 i x hx
  exact ⟨a, b, f', hf'.of_block (hb.block _ hf'.lt)⟩

theorem OwnIn.set {w : World} {lo hi g : Nat} {l : List Item} (h : OwnIn w lo hi g l) (j : Nat) (hj : j % 3 ≠ 1) (v : Value) : OwnIn (w.setCell ⟨g, j, none⟩ v) lo hi g l := by
  obtain ⟨G, h0, ⟨f, hf, hc⟩, h2⟩ := h
  refine ⟨G, h0, ⟨_, hf.set j v, fun i x hx => ?_⟩, fun i x hx => ?_⟩
  · show (if i * 3 + 1 = j then v else f (i * 3 + 1)) = _
    rw [if_neg (by omega)]
    exact hc i x hx
  · obtain ⟨a, b, f', hf'⟩ := h2 i x hx
    exact ⟨a, b, f', hf'.setOther (by show G i ≠ g; omega) v⟩

theorem OwnIn.shape {w w' : World} {lo hi g g' : Nat} {l : List Item} (h : OwnIn w lo hi g l) (hs : Shape w w') (hg : w.grownBy w' (some g')) (hne : g ≠ g') : OwnIn w' lo hi g l := by
  obtain ⟨G, h0, ⟨f, hf, hc⟩, h2⟩ := h
  refine ⟨G, h0, ⟨f, hf.of_block (hg.block _ hf.lt (fun e => by injection e with e; exact hne e)), hc⟩, fun i x hx => ?_⟩
  obtain ⟨a, b, f', hf'⟩ := h2 i x hx
  exact ⟨a, b, hs _ _ _ _ hf'⟩

end Go.Proofs.Ytgagfaajilbmmaa
