/- Contract of the draw of a sum; and of the laws' own sum of a list.
   Conditions: the bounds in each statement.
   Contract of the draw of shares.
   Conditions: the bounds in each statement.
   Contract of the draw of an order.
   Conditions: the bounds in each statement. -/
import Derived.Test.YtgagfaajilbmmaaDoorDraw
import Derived.Test.YtgagfaajilbmmaaDoorSums
import Derived.Test.YtgagfaajilbmmaaDoorDrawI
namespace Go.Proofs.YtgagfaajilbmmaaDoor
open Go.RowKit Go.ChangeShapes Go.WideShapes Go.ChangeAt

def DrewSum (w : World) (b n : Nat) (e : Ending) (w' : World) : Prop := ∃ s : Int, e = .returned (.int .i64 s) ∧ -20000 ≤ s ∧ s ≤ 20000 ∧ Rd w' b (n + 4) ∧ w.grownBy w' (some b)

theorem mul_rng {p q P Q : Int} (h0 : 0 ≤ p) (h1 : p ≤ P) (h2 : 0 ≤ q) (h3 : q ≤ Q) (hP : 0 ≤ P) : 0 ≤ p * q ∧ p * q ≤ P * Q :=
  ⟨Int.mul_nonneg h0 h2, Int.mul_le_mul h1 h3 h2 hP⟩
theorem tdiv_one {p d : Int} (h0 : 0 ≤ p) (h1 : p ≤ d) (hd : 0 < d) : ∃ t : Int, p.tdiv d = t ∧ 0 ≤ t ∧ t ≤ 1 := by
  refine ⟨_, rfl, ?_⟩
  rw [Int.tdiv_eq_ediv_of_nonneg h0]
  refine ⟨Int.ediv_nonneg h0 (by omega), ?_⟩
  have := Int.ediv_le_ediv hd h1
  rwa [Int.ediv_self (by omega)] at this

end Go.Proofs.YtgagfaajilbmmaaDoor

namespace Go.Proofs.YtgagfaajilbmmaaDoor
open Go.RowKit Go.ChangeShapes Go.WideShapes Go.ChangeAt Go.Deep

theorem sumL_abs {B : Int} (hB : 0 ≤ B) : ∀ {l : List Int}, (∀ x ∈ l, -B ≤ x ∧ x ≤ B) → -(B * l.length) ≤ sumL l ∧ sumL l ≤ B * l.length
  | [], _ => by simp [sumL]
  | x :: r, h => by
    have ih := sumL_abs hB (l := r) (fun y hy => h y (by simp [hy]))
    have hx := h x (by simp)
    simp only [sumL, List.length_cons, Int.natCast_add, Int.natCast_one, Int.mul_add, Int.mul_one]
    omega
theorem sumW_abs {B : Int} (hB : 0 ≤ B) (hB2 : B ≤ 100000) {l : List Int} (h : ∀ x ∈ l, -B ≤ x ∧ x ≤ B) (hl : l.length ≤ 100) : sumW l = sumL l ∧ -(B * l.length) ≤ sumW l ∧ sumW l ≤ B * l.length := by
  have a := sumL_abs hB h
  have hm : B * (l.length : Int) ≤ 100000 * 100 := Int.mul_le_mul hB2 (by omega) (by omega) (by omega)
  have e : sumW l = sumL l := by
    unfold sumW
    rw [sumGo_plain l 0 (-B) B h (by omega) hB (by rw [Int.neg_mul]; omega) (by omega)]
    omega
  exact ⟨e, by omega, by omega⟩
theorem ones_lit (w : World) (lo : Nat) (hlo : lo ≤ w.heap.size) : IntSl (w.alloc (.cells #[.int .i64 1, .int .i64 1, .int .i64 1, .int .i64 1, .int .i64 1, .int .i64 1, .int .i64 1, .int .i64 1] 3)) lo (.slice (some ⟨w.heap.size, 0, none⟩) 8 8) [1, 1, 1, 1, 1, 1, 1, 1] :=
  World.ownsRow_lit w #[.int .i64 1, .int .i64 1, .int .i64 1, .int .i64 1, .int .i64 1, .int .i64 1, .int .i64 1, .int .i64 1] 8 hlo (by unfold maxLen; omega) rfl

end Go.Proofs.YtgagfaajilbmmaaDoor

namespace Go.Proofs.YtgagfaajilbmmaaDoor
open Go.RowKit Go.ChangeShapes Go.WideShapes Go.ChangeAt Go.Deep

theorem IntSl.frontI {w : World} {lo g L c k : Nat} {l : List Int} (h : IntSl w lo (.slice (some ⟨g, 0, none⟩) L c) l) (hk : k ≤ L) : IntSl w lo (.slice (some ⟨g, 0, none⟩) k c) (l.take k) := by
  obtain ⟨h1, h2⟩ := h
  have hL : (l.take k).length = k := by
    rcases h2 with ⟨hv, _⟩ | ⟨g', cap, cur, hv, _⟩
    · cases hv
    · injection hv with e1 e2 e3
      rw [List.length_take]
      omega
  unfold IntSl
  rw [hL]
  refine ⟨by rw [List.length_map, hL, Nat.mul_one], .inr ?_⟩
  rcases h2 with ⟨hv, _⟩ | ⟨g', cap, cur, hv, hlo, hb, hn, hm, hs, ht⟩
  · cases hv
  · injection hv with e1 e2 e3
    injection e1 with e1
    injection e1 with e1
    subst e1 e2 e3
    refine ⟨g, c, cur, rfl, hlo, hb, by omega, hm, hs, ?_⟩
    rw [List.map_take, ← ht, List.take_take]
    congr 1
    omega
set_option maxRecDepth 100000 in
/-- A part of an owned row, from an index on. -/
theorem drop_sliceI {w : World} {lo g L c k : Nat} {ls : List Int} (h : IntSl w lo (.slice (some ⟨g, 0, none⟩) L c) ls) (hk : k ≤ L) : ∃ (ad : Addr) (m c9 : Nat),
    (∀ W, (Instr.slice 24 (.slice (some ⟨g, 0, none⟩) L c) (some (.int .i64 (k : Int))) none none).run Tryd.prog W = .ok (.slice (some ad) m c9) W) ∧ (∀ W, (Instr.sliceAt 24 (.slice (some ⟨g, 0, none⟩) L c) (some (.int .i64 (k : Int))) none none).run Tryd.prog W = .ok (.slice (some ad) m c9) W) ∧
    (∀ W, IntsAt W (some ⟨g, 0, none⟩) ls → IntsAt W (some ad) (ls.drop k)) ∧ (ls.drop k).length = m ∧ m = L - k := by
  have ht : Tryd.prog.underlying 24 = some (.slice (Tryd.prog.elem 24)) := rfl
  have hz : ∀ W, (sizeOf (Tryd.prog.elem 24)).run Tryd.prog W = .ok 1 W := fun W => by rfl
  obtain ⟨h1, h2, -⟩ := IntSl.capI h
  by_cases hc : c = k
  · have hkL : k = L := by omega
    have e : ∀ W, (Instr.slice 24 (.slice (some ⟨g, 0, none⟩) L c) (some (.int .i64 (k : Int))) none none).run Tryd.prog W = .ok (.slice (some ⟨g, 0, none⟩) (L - k) 0) W := fun W => by
      rw [run_slice_l W _ _ _ _ ht .i64 k (by omega) (by omega), hz]
      simp [Result.andThen, sliced, hc]
    exact ⟨⟨g, 0, none⟩, L - k, 0, e, fun W => (run_sliceAt_slice W _ _ _ _ _ ht).trans (e W), fun W _ => by rw [List.drop_of_length_le (by omega)]; exact IntsAt.nil _ _, by rw [List.length_drop, h1], rfl⟩
  · have e : ∀ W, (Instr.slice 24 (.slice (some ⟨g, 0, none⟩) L c) (some (.int .i64 (k : Int))) none none).run Tryd.prog W = .ok (.slice (some ⟨g, k, none⟩) (L - k) (c - k)) W := fun W => by
      rw [run_slice_l W _ _ _ _ ht .i64 k (by omega) (by omega), hz]
      simp [Result.andThen, sliced, hc, Addr.add]
      omega
    refine ⟨⟨g, k, none⟩, L - k, c - k, e, fun W => (run_sliceAt_slice W _ _ _ _ _ ht).trans (e W), fun W hW => ?_, by rw [List.length_drop, h1], rfl⟩
    intro i p hp
    rw [List.getElem?_drop] at hp
    obtain ⟨b, o, e, hlt, h3⟩ := hW (k + i) p hp
    injection e with e
    injection e with e1 e2
    subst e1 e2
    exact ⟨g, k, rfl, hlt, by rw [show k + i = 0 + (k + i) from by omega]; exact h3⟩
set_option maxRecDepth 100000 in
theorem take_sliceI {L c g k : Nat} (hk : k ≤ L) (hL : L ≤ c) : (∀ W, (Instr.slice 24 (.slice (some ⟨g, 0, none⟩) L c) none (some (.int .i64 (k : Int))) none).run Tryd.prog W = .ok (.slice (some ⟨g, 0, none⟩) k c) W) ∧ (∀ W, (Instr.sliceAt 24 (.slice (some ⟨g, 0, none⟩) L c) none (some (.int .i64 (k : Int))) none).run Tryd.prog W = .ok (.slice (some ⟨g, 0, none⟩) k c) W) := by
  have ht : Tryd.prog.underlying 24 = some (.slice (Tryd.prog.elem 24)) := rfl
  have hz : ∀ W, (sizeOf (Tryd.prog.elem 24)).run Tryd.prog W = .ok 1 W := fun W => by rfl
  have e1 : ∀ W, (Instr.slice 24 (.slice (some ⟨g, 0, none⟩) L c) none (some (.int .i64 (k : Int))) none).run Tryd.prog W = .ok (.slice (some ⟨g, 0, none⟩) k c) W := fun W => by
    rw [run_slice_h W _ _ _ _ ht .i64 k (by omega) (by omega), hz]
    simp [Result.andThen, sliced, Addr.add]
  exact ⟨e1, fun W => (run_sliceAt_slice W _ _ _ _ _ ht).trans (e1 W)⟩
theorem cellBI {w3 w5 : World} {b j : Nat} {a c : Int} {u : Value} (hb : b < w3.heap.size) (hg5 : (w3.alloc (.cells #[.int .i64 a, .int .i64 c] 3)).grownBy w5 (some b)) (hu : (#[Value.int .i64 a, Value.int .i64 c] : Array Value)[j]? = some u) : w5.cell? ⟨w3.heap.size, j, none⟩ = some u := by
  have hb5 : w5.heap[w3.heap.size]? = some (.cells #[.int .i64 a, .int .i64 c] 3) := (hg5.block w3.heap.size (by simp) (fun e => by injection e with e; omega)).trans (heap_alloc_new w3 _)
  rw [cell_of_row _ _ _ _ _ _ hb5]
  exact hu
theorem below_own {w wr : World} {o : Obj} (hg : (w.alloc o).grownBy wr (some w.heap.size)) : Below w.heap.size w wr :=
  (Below.alloc (Below.refl _ _) (Nat.le_refl _) _).grown hg (by simp) (fun j hj => by injection hj with hj; omega)

def DrewO (m : Nat) (w : World) (b n : Nat) (e : Ending) (w' : World) : Prop := ∃ (ls : List Int) (g c : Nat), e = .returned (.slice (some ⟨g, 0, none⟩) ls.length c) ∧ IntSl w' w.heap.size (.slice (some ⟨g, 0, none⟩) ls.length c) ls ∧ ls.length ≤ m ∧ Rd w' b n ∧ w.grownBy w' (some b)

end Go.Proofs.YtgagfaajilbmmaaDoor
