/- UnitP: lists of fractions that a call owns; append of one.
   Conditions: the bounds in each statement. -/
import Derived.Test.YtjegebnnlomcpaaDoorUnitU
import Derived.Deep.AppendLies
namespace Go.Proofs.YtjegebnnlomcpaaDoor
open Go.RowKit Go.ChangeShapes Go.WideShapes Go.ChangeAt Go.Deep

def fracCells (cs : List (Nat × Nat)) : List Value := cs.flatMap (fun c => [.int .i64 (c.1 : Nat), .int .i64 (c.2 : Nat)])
def FracSl (w : World) (lo : Nat) (v : Value) (cs : List (Nat × Nat)) : Prop := w.ownsRow lo 28 2 v cs.length (fracCells cs)
theorem fracCells_append (cs ds : List (Nat × Nat)) : fracCells (cs ++ ds) = fracCells cs ++ fracCells ds := by simp [fracCells]
theorem fracCells_at : ∀ {cs : List (Nat × Nat)} {i : Nat} {c : Nat × Nat}, cs[i]? = some c → (fracCells cs)[i * 2]? = some (.int .i64 (c.1 : Nat)) ∧ (fracCells cs)[i * 2 + 1]? = some (.int .i64 (c.2 : Nat))
  | [], i, c, h => by simp at h
  | q :: r, 0, c, h => by
    obtain rfl : q = c := by simpa using h
    exact ⟨rfl, rfl⟩
  | q :: r, i + 1, c, h => by
    have := fracCells_at (cs := r) (i := i) (c := c) (by simpa using h)
    rw [show (i + 1) * 2 = i * 2 + 1 + 1 from by omega]
    exact this
theorem wp_push_frac {W : World} {o : Oper} {a : Act} {K : Act → World → Prop} {Q : Exit → Act → World → Prop} (s x : Operand)
    (ho : o.op = .call { callee := .builtin .append, args := #[s, x], argTypes := #[48, 48] }) (lo : Nat) (v : Value) (cs : List (Nat × Nat)) (hs : a.eval s = v) (hown : FracSl W lo v cs) (g : Nat) (y : Nat × Nat)
    (hx : a.eval x = .slice (some ⟨g, 0, none⟩) 1 1) (hg : W.heap[g]? = some (.cells #[.int .i64 (y.1 : Nat), .int .i64 (y.2 : Nat)] 28 (0, 0))) (hn : cs.length ≤ 1048576) (hlo : lo ≤ W.heap.size)
    (h : ∀ g' cap w', FracSl w' lo (.slice (some ⟨g', 0, none⟩) (cs.length + 1) cap) (cs ++ [y]) → W.grownBy w' v.ownBlock → K (a.put o.dst (.slice (some ⟨g', 0, none⟩) (cs.length + 1) cap)) w') : o.wp Tryd.prog a W K Q := by
  obtain ⟨i0, hi, hz0, hz1, hz2⟩ := info_parts infoFrac
  refine wp_append_lies W s x 48 ho lo 28 i0 _ 2 16 Tryd.underlying48 hi hz0 hz1 hz2 rfl (by decide) v cs.length (fracCells cs) hs hown ⟨g, 0, none⟩ 1 1 [.int .i64 (y.1 : Nat), .int .i64 (y.2 : Nat)] hx rfl
    (World.news_of_block (cs := #[.int .i64 (y.1 : Nat), .int .i64 (y.2 : Nat)]) hg) (fun u hu => by
      simp only [List.mem_cons, List.not_mem_nil, or_false] at hu
      rcases hu with rfl | rfl <;> rfl) (by decide) (by unfold maxLen; omega) (by omega) hlo _ rfl ?_
  intro g' cap w' h1 h2 _ _
  refine h g' cap w' ?_ h2
  unfold FracSl
  rw [List.length_append, fracCells_append]
  exact h1
theorem FracSl.at_ {w : World} {lo g n c : Nat} {cs : List (Nat × Nat)} (h : FracSl w lo (.slice (some ⟨g, 0, none⟩) n c) cs) : FracsAt w (some ⟨g, 0, none⟩) cs := fun i x hx => by
  have hi := (List.getElem?_eq_some_iff.1 hx).1
  have hlt := World.ownsRow.lt h g rfl
  have hc := fracCells_at hx
  have e0 := World.ownsRow.cells h rfl (i * 2) _ hc.1
  have e1 := World.ownsRow.cells h rfl (i * 2 + 1) _ hc.2
  rw [add_plain, Nat.zero_add] at e0 e1
  exact ⟨g, 0, rfl, hlt.2, by rw [Nat.zero_add]; exact e0, by rw [Nat.zero_add]; exact e1⟩

/-- One part more in the model's sum: x = (x1, y q), x1 at most K q. -/
theorem sumS_step {C K y q x1 m a b : Nat} (hy : 0 < y) (hm : m ≤ 6) (ha : a ≤ C * b) (hK : x1 ≤ K * q) : m * a * (y * q) / y = m * a * q ∧ x1 * b + m * a * q ≤ (K + 6 * C) * (q * b) := by
  refine ⟨by rw [show m * a * (y * q) = y * (m * a * q) from by rw [Nat.mul_left_comm], Nat.mul_div_cancel_left _ hy], ?_⟩
  rw [Nat.add_mul]
  refine Nat.add_le_add ?_ ?_
  · calc x1 * b ≤ K * q * b := Nat.mul_le_mul_right b hK
      _ = K * (q * b) := by rw [Nat.mul_assoc]
  · calc m * a * q ≤ 6 * (C * b) * q := Nat.mul_le_mul_right _ (Nat.mul_le_mul hm ha)
      _ = 6 * C * (q * b) := by ac_rfl
theorem sumS_cons {y m a b : Nat} {x : Nat × Nat} {r : List (Nat × Nat × Nat)} : sumS y x ((m, a, b) :: r) = sumS y (x.1 * b + m * a * x.2 / y, x.2 * b) r := rfl
theorem lowN_one (p : Nat) : lowN p 1 = (p, 1) := by unfold lowN; rw [Nat.gcd_one_right]; simp
/-- What the model writes for an item is what a unit of it costs. -/
theorem unitOf_spec {cs : List (Nat × Nat)} {x : Item} {p : Int} (hy : 0 < x.yield) (hp : ∀ q ∈ partsN cs x.parts, 0 < q.2.2) :
    lowN (sumS x.yield.toNat (0, x.yield.toNat) (partsN cs x.parts)).1 (sumS x.yield.toNat (0, x.yield.toNat) (partsN cs x.parts)).2 = unitOf cs x p := by
  unfold unitOf
  rw [if_pos hy]
  exact share_both (by omega) _ hp
theorem unitOf_bought {cs : List (Nat × Nat)} {x : Item} {p : Int} (hy : ¬ 0 < x.yield) : lowN p.toNat 1 = unitOf cs x p := by
  unfold unitOf
  rw [if_neg hy, lowN_one]
end Go.Proofs.YtjegebnnlomcpaaDoor
