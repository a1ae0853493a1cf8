/- Draws of lists of numbers: what they need. Rows of numbers that a draw owns, appends of one number and of a whole slice, what lies behind the first element.
   Conditions: the bounds in each statement. -/
import Derived.Test.YtjegebnnlomcpaaDoorDraw
import Derived.Test.YtjegebnnlomcpaaDoorSpread0
import Derived.Test.YtjegebnnlomcpaaDoorZeros
import Derived.Deep.RegionLaw
namespace Go.Proofs.YtjegebnnlomcpaaDoor
open Go.RowKit Go.ChangeShapes Go.WideShapes Go.ChangeAt Go.Deep

theorem wpList_wantedI {P : Program} {ops : Array Oper} {Q : Exit → Act → World → Prop} {rest : List Oper} {o : Oper} {a : Act} {w : World} (hw : Region.wanted o (yielded ops a.tmps) = true) (h : o.wp P a w (wpList P ops Q rest) Q) : wpList P ops Q (o :: rest) a w := by
  unfold wpList
  rw [if_pos hw]
  exact .inl h
theorem rd_grownI {w w' : World} {b n : Nat} {row : Option Nat} (hR : Rd w b n) (hg : w.grownBy w' row) (hr : ∀ k, row = some k → b < k) : Rd w' b n :=
  hR.kept fun j hj => hg.block j (by have := hR.lt; omega) (fun e => by have := hr j e.symm; omega)
theorem grown_rowI {w wr w' : World} {b : Nat} {row : Option Nat} (h : w.grownBy wr (some b)) (hg : wr.grownBy w' row) (hr : ∀ k, row = some k → w.heap.size ≤ k) : w.grownBy w' (some b) :=
  ⟨hg.os.trans h.os, hg.tape.trans h.tape, hg.output.trans h.output, Nat.le_trans h.size hg.size, fun j hj hne =>
    (hg.block j (Nat.lt_of_lt_of_le hj h.size) (fun e => by have := hr j e.symm; omega)).trans (h.block j hj hne)⟩
theorem grown_belowI {w wr w' : World} {b : Nat} (h : w.grownBy wr (some b)) (hb : Below wr.heap.size wr w') : w.grownBy w' (some b) :=
  ⟨hb.os.trans h.os, hb.tape.trans h.tape, hb.output.trans h.output, Nat.le_trans h.size hb.size, fun j hj hne => (hb.block j (Nat.lt_of_lt_of_le hj h.size)).trans (h.block j hj hne)⟩
theorem rd_belowI {w w' : World} {b n : Nat} (hR : Rd w b n) (hb : Below w.heap.size w w') : Rd w' b n :=
  hR.kept fun j hj => hb.block j (by have := hR.lt; omega)
theorem row_pickI {w w' : World} {lo b : Nat} {e : TypeId} {size n : Nat} {v : Value} {xs : List Value} (h : w.ownsRow lo e size v n xs) (hb : b < lo) (hg : w.grownBy w' (some b)) : w'.ownsRow lo e size v n xs := World.ownsRow.kept h hg (by
  cases e : v.ownBlock with
  | none => exact .inl rfl
  | some k => exact .inr (fun e' => by injection e' with e'; have := (World.ownsRow.lt h k e).1; omega))
theorem wp_push_intI {W : World} {o : Oper} {a : Act} {K : Act → World → Prop} {Q : Exit → Act → World → Prop} (s x : Operand)
    (ho : o.op = .call { callee := .builtin .append, args := #[s, x], argTypes := #[24, 24] }) (lo : Nat) (v : Value) (xs : List Int) (hs : a.eval s = v) (hown : IntSl W lo v xs) (g : Nat) (y : Int)
    (hx : a.eval x = .slice (some ⟨g, 0, none⟩) 1 1) (hg : W.heap[g]? = some (.cells #[.int .i64 y] 3 (0, 0))) (hn : xs.length ≤ 1048576) (hlo : lo ≤ W.heap.size)
    (h : ∀ g' cap w', IntSl w' lo (.slice (some ⟨g', 0, none⟩) (xs.length + 1) cap) (xs ++ [y]) → W.grownBy w' v.ownBlock → K (a.put o.dst (.slice (some ⟨g', 0, none⟩) (xs.length + 1) cap)) w') : o.wp Tryd.prog a W K Q := by
  obtain ⟨i0, hi, hz0, hz1, hz2⟩ := info_parts info3
  refine wp_append_lies W s x 24 ho lo 3 i0 (.int .i64 0) 1 8 Tryd.underlying24 hi hz0 hz1 hz2 rfl (by decide) v xs.length (xs.map (.int .i64)) hs hown ⟨g, 0, none⟩ 1 1 [.int .i64 y] hx rfl
    (World.news_of_block (cs := #[.int .i64 y]) hg) (ints_oneCell .i64 [y]) (by decide) (by unfold maxLen; omega) (by omega) hlo _ rfl ?_
  intro g' cap w' h1 h2 _ _
  refine h g' cap w' ?_ h2
  unfold IntSl
  rw [List.length_append, List.map_append]
  exact h1
theorem IntSl.capI {w : World} {lo n c g : Nat} {l : List Int} (h : IntSl w lo (.slice (some ⟨g, 0, none⟩) n c) l) : l.length = n ∧ n ≤ c ∧ c ≤ maxLen ∧ lo ≤ g ∧ g < w.heap.size := by
  have hlt := World.ownsRow.lt h g rfl
  rcases h.2 with ⟨hv, _⟩ | ⟨g', cap, cur, hv, _, _, h1, h2, _⟩
  · cases hv
  · injection hv with e1 e2 e3
    subst e2 e3
    exact ⟨rfl, h1, h2, hlt.1, hlt.2⟩
theorem end_pushI {w w5 W w6 : World} {b n gB : Nat} (hG : w.grownBy w5 (some b)) (hR : Rd w5 b n) (hB : Below w5.heap.size w5 W) (hg : W.grownBy w6 (some gB)) (hgB : w5.heap.size ≤ gB) : Rd w6 b n ∧ w.grownBy w6 (some b) := by
  have hB2 : Below w5.heap.size w5 w6 := hB.grown hg hB.size (fun k hk => by injection hk with hk; omega)
  exact ⟨rd_belowI hR hB2, grown_belowI hG hB2⟩
theorem heap_twoI (w : World) (A B : Obj) : ((w.alloc A).alloc B).heap[w.heap.size + 1]? = some B := by
  have := heap_alloc_new (w.alloc A) B
  rwa [World.size_alloc] at this
theorem pair_atI {a b : Int} {j : Nat} (h : j < 2) : ∃ u, (#[Value.int .i64 a, Value.int .i64 b] : Array Value)[j]? = some (.int .i64 u) ∧ (∀ h : j < [Value.int .i64 a, Value.int .i64 b].length, [Value.int .i64 a, Value.int .i64 b][j]'h = .int .i64 u) ∧ (u = a ∨ u = b) := by
  rcases (by omega : j = 0 ∨ j = 1) with rfl | rfl
  · exact ⟨a, rfl, fun _ => rfl, .inl rfl⟩
  · exact ⟨b, rfl, fun _ => rfl, .inr rfl⟩
theorem cellAI {w3 w5 : World} {b j : Nat} {a c : Int} {u : Value} (hb : b < w3.heap.size) (hg5 : (w3.alloc (.cells #[.int .i64 a, .int .i64 c] 3)).drew.grownBy w5 (some b)) (hu : (#[Value.int .i64 a, Value.int .i64 c] : Array Value)[j]? = some u) : w5.cell? ⟨w3.heap.size, j, none⟩ = some u := by
  have hb5 : w5.heap[w3.heap.size]? = some (.cells #[.int .i64 a, .int .i64 c] 3) := (hg5.block w3.heap.size (by simp) (fun e => by injection e with e; omega)).trans (heap_alloc_new w3 _)
  rw [cell_of_row _ _ _ _ _ _ hb5]
  exact hu
theorem tail_atI {w5 W : World} {lo g L c : Nat} {l : List Int} (h : IntSl w5 lo (.slice (some ⟨g, 0, none⟩) L c) l) (hB : Below w5.heap.size w5 W) : IntsAt W (some ⟨g, 0, none⟩) l := (h.below hB).ints
set_option maxRecDepth 100000 in
/-- What lies behind the first element, if there is one. -/
theorem tail_sliceI {w : World} {lo g L c : Nat} {ls : List Int} (h : IntSl w lo (.slice (some ⟨g, 0, none⟩) L c) ls) : ∃ (M : Int) (ad : Addr) (L9 c9 : Nat), min (1 : Int) (L : Int) = M ∧
    (∀ W, (Instr.slice 24 (.slice (some ⟨g, 0, none⟩) L c) (some (.int .i64 M)) none none).run Tryd.prog W = .ok (.slice (some ad) L9 c9) W) ∧ (∀ W, (Instr.sliceAt 24 (.slice (some ⟨g, 0, none⟩) L c) (some (.int .i64 M)) none none).run Tryd.prog W = .ok (.slice (some ad) L9 c9) W) ∧
    (∀ W, IntsAt W (some ⟨g, 0, none⟩) ls → IntsAt W (some ad) (ls.drop 1)) ∧ (ls.drop 1).length = L9 := by
  have ht : Tryd.prog.underlying 24 = some (.slice (Tryd.prog.elem 24)) := rfl
  have hz : ∀ W, (sizeOf (Tryd.prog.elem 24)).run Tryd.prog W = .ok 1 W := fun W => by rfl
  have hcap := IntSl.capI h
  obtain ⟨h1, h2, -⟩ := hcap
  cases ls with
  | nil =>
    obtain rfl : L = 0 := by simpa using h1.symm
    have : ∀ W, (Instr.slice 24 (.slice (some ⟨g, 0, none⟩) 0 c) (some (.int .i64 0)) none none).run Tryd.prog W = .ok (.slice (some ⟨g, 0, none⟩) 0 c) W := fun W => by
      rw [run_slice_l W _ _ _ _ ht .i64 0 (by omega) (by simp), hz]; simp [Result.andThen, sliced, Addr.add]
    exact ⟨0, ⟨g, 0, none⟩, 0, c, rfl, this, fun W => (run_sliceAt_slice W _ _ _ _ _ ht).trans (this W), fun W _ => IntsAt.nil _ _, rfl⟩
  | cons x r =>
    obtain rfl : L = r.length + 1 := by simpa using h1.symm
    have hM : min (1 : Int) ((r.length + 1 : Nat) : Int) = 1 := by omega
    by_cases h1c : c = 1
    · subst h1c
      have hr : r = [] := List.eq_nil_of_length_eq_zero (by omega)
      subst hr
      have : ∀ W, (Instr.slice 24 (.slice (some ⟨g, 0, none⟩) ([] : List Int).length.succ 1) (some (.int .i64 1)) none none).run Tryd.prog W = .ok (.slice (some ⟨g, 0, none⟩) 0 0) W := fun W => by
        rw [run_slice_l W _ _ _ _ ht .i64 1 (by omega) (by simp), hz]; simp [Result.andThen, sliced]
      exact ⟨1, ⟨g, 0, none⟩, 0, 0, rfl, this, fun W => (run_sliceAt_slice W _ _ _ _ _ ht).trans (this W), fun W _ => IntsAt.nil _ _, rfl⟩
    · have : ∀ W, (Instr.slice 24 (.slice (some ⟨g, 0, none⟩) (r.length + 1) c) (some (.int .i64 1)) none none).run Tryd.prog W = .ok (.slice (some ⟨g, 1, none⟩) r.length (c - 1)) W := fun W => by
        rw [run_slice_l W _ _ _ _ ht .i64 1 (by omega) (by omega), hz]; simp [Result.andThen, sliced, Addr.add, h1c]
      exact ⟨1, ⟨g, 1, none⟩, r.length, c - 1, hM, this, fun W => (run_sliceAt_slice W _ _ _ _ _ ht).trans (this W), fun W h => by have := h.tail; simpa using this, rfl⟩

def DrewI (B : Int) (m : Nat) (w : World) (b n : Nat) (e : Ending) (w' : World) : Prop := ∃ (ls : List Int) (g c : Nat), e = .returned (.slice (some ⟨g, 0, none⟩) ls.length c) ∧ IntSl w' w.heap.size (.slice (some ⟨g, 0, none⟩) ls.length c) ls ∧ ls.length ≤ m ∧ Rd w' b n ∧ w.grownBy w' (some b) ∧ ∀ x ∈ ls, -B ≤ x ∧ x ≤ B
def DrawnIG (B : Int) (m : Nat) (w : World) (e : Ending) (w' : World) : Prop := ∃ (ls : List Int) (g c : Nat), e = .returned (.slice (some ⟨g, 0, none⟩) ls.length c) ∧ IntsAt w' (some ⟨g, 0, none⟩) ls ∧ ls.length ≤ m ∧ g < w'.heap.size ∧ Hid (∀ x ∈ ls, -B ≤ x ∧ x ≤ B) ∧ Below w.heap.size w w'
theorem below_pushI {w W wa : World} {o : Obj} {g n c lo : Nat} (hb : Below w.heap.size w W) (hg : (W.alloc o).grownBy wa (Value.slice (some ⟨g, 0, none⟩) n c).ownBlock) (hlo : lo ≤ g) (hw : w.heap.size ≤ lo) : Below w.heap.size w wa :=
  (hb.alloc hb.size _).grown hg (by have := hb.size; simp; omega) (fun j hj => by
    have hj : some g = some j := hj
    injection hj with hj
    omega)
theorem rng_nil {B : Int} : ∀ x ∈ ([] : List Int), -B ≤ x ∧ x ≤ B := fun x hx => by cases hx
theorem rng_push {B y : Int} {l : List Int} (h : ∀ x ∈ l, -B ≤ x ∧ x ≤ B) (h0 : -B ≤ y) (h1 : y ≤ B) : ∀ x ∈ l ++ [y], -B ≤ x ∧ x ≤ B := fun x hx => by
  rcases List.mem_append.1 hx with hx | hx
  · exact h x hx
  · simp only [List.mem_cons, List.not_mem_nil, or_false] at hx
    subst hx
    exact ⟨h0, h1⟩
theorem rng_cons {B y : Int} {l : List Int} (h : ∀ x ∈ l, -B ≤ x ∧ x ≤ B) (h0 : -B ≤ y) (h1 : y ≤ B) : ∀ x ∈ [y] ++ l.drop 1, -B ≤ x ∧ x ≤ B := fun x hx => by
  rcases List.mem_append.1 hx with hx | hx
  · simp only [List.mem_cons, List.not_mem_nil, or_false] at hx
    subst hx
    exact ⟨h0, h1⟩
  · exact h x (List.mem_of_mem_drop hx)
theorem rng_zeros {B : Int} (n : Nat) (hB : 0 ≤ B) : ∀ x ∈ tab n (fun _ => (0 : Int)), -B ≤ x ∧ x ≤ B := fun x hx => by
  obtain ⟨j, _, rfl⟩ := List.mem_map.1 hx
  omega
end Go.Proofs.YtjegebnnlomcpaaDoor
