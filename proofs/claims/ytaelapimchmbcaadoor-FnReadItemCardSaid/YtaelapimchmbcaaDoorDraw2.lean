/- Contracts of the draws of an item and of a list of items.
   Conditions: the bounds in each statement. -/
import Derived.Test.YtaelapimchmbcaaDoorDraw
import Derived.Deep.DeepCutAuto
namespace Go.Proofs.YtaelapimchmbcaaDoor
open Go.RowKit

theorem Picked.undrew {w : World} {b n : Nat} {k : Int} {e : Ending} {w' : World} (h : Picked w.drew b n k e w') : Picked w b n k e w' := by
  obtain ⟨v, he, h0, h1, hR, hg⟩ := h
  exact ⟨v, he, h0, h1, hR, ⟨hg.os, hg.tape, hg.output, hg.size, hg.block⟩⟩

def partCells (ps : List Part) : List Value := ps.flatMap (fun p => [.int .i64 p.of, .int .i64 p.many])
theorem partCells_at : ∀ {ps : List Part} {i : Nat} {p : Part}, ps[i]? = some p → (partCells ps)[i * 2]? = some (.int .i64 p.of) ∧ (partCells ps)[i * 2 + 1]? = some (.int .i64 p.many)
  | [], i, p, h => by simp at h
  | q :: r, 0, p, h => by
    obtain rfl : q = p := by simpa using h
    exact ⟨rfl, rfl⟩
  | q :: r, i + 1, p, h => by
    have := partCells_at (ps := r) (i := i) (p := p) (by simpa using h)
    rw [show (i + 1) * 2 = i * 2 + 1 + 1 from by omega]
    exact this
theorem partCells_len (ps : List Part) : (partCells ps).length = ps.length * 2 := by
  induction ps with
  | nil => rfl
  | cons q r ih => simp only [partCells, List.flatMap_cons, List.length_append, List.length_cons, List.length_nil] at *; omega
theorem partCells_snoc (ps : List Part) (p : Part) : partCells (ps ++ [p]) = partCells ps ++ [.int .i64 p.of, .int .i64 p.many] := by simp [partCells]

def PartSl (w : World) (lo : Nat) (v : Value) (ps : List Part) : Prop := w.ownsRow lo 48 2 v ps.length (partCells ps)

theorem PartSl.form {w : World} {lo : Nat} {v : Value} {ps : List Part} (h : PartSl w lo v ps) : ∃ A c, v = .slice A ps.length c ∧ PartsAt w A ps := by
  have hlt := h.lt
  rcases h.2 with ⟨hv, hn⟩ | ⟨g, cap, cur, hv, _⟩
  · have : ps = [] := List.eq_nil_of_length_eq_zero hn
    subst this
    exact ⟨none, 0, hv, fun i x hx => by simp at hx⟩
  · refine ⟨some ⟨g, 0, none⟩, cap, hv, fun i p hp => ?_⟩
    subst hv
    have hi : i < ps.length := (List.getElem?_eq_some_iff.1 hp).1
    have hc := partCells_at hp
    refine ⟨g, 0, rfl, (hlt g rfl).2, ?_, ?_⟩
    · rw [Nat.zero_add, World.ownsRow.cellAt h (i * 2) (by omega)]; exact hc.1
    · rw [Nat.zero_add, World.ownsRow.cellAt h (i * 2 + 1) (by omega)]; exact hc.2

/-- The block of an address is a row of cells of type t. -/
def TB (w : World) (A : Option Addr) (t : TypeId) : Prop := ∀ a, A = some a → a.spot = none ∧ ∃ cs, w.heap[a.block]? = some (.cells cs t (0, 0))

theorem PartSl.tb {w : World} {lo n c : Nat} {A : Option Addr} {ps : List Part} (h : PartSl w lo (.slice A n c) ps) : TB w A 48 := by
  intro a ha
  rcases h.2 with ⟨hv, hn⟩ | ⟨g, cap, cur, hv, _, hg, _⟩
  · injection hv with hv
    rw [hv] at ha
    cases ha
  · injection hv with hv
    rw [hv] at ha
    injection ha with ha
    subst ha
    exact ⟨rfl, cur, hg⟩

theorem infoP : (Tryd.prog.info? 48).map (fun i => (i.zero, i.size, i.bytes)) = some (some (.agg #[.int .i64 0, .int .i64 0]), 2, 16) := by kernel_rfl

/-- Append of one part, at a step of a region that draws its order. -/
theorem step_push_part {W : World} {ops : Array Oper} {o : Oper} {a : Act} {K : Act → World → Prop} {Q : Exit → Act → World → Prop} {E : Prop} (hgd : o.guard = none) (s x : Operand)
    (ho : o.op = .call { callee := .builtin .append, args := #[s, x], argTypes := #[23, 23] }) (lo : Nat) (v : Value) (ps : List Part) (hs : a.eval s = v) (hown : PartSl W lo v ps) (g : Nat) (p : Part)
    (hx : a.eval x = .slice (some ⟨g, 0, none⟩) 1 1) (hg : W.heap[g]? = some (.cells #[.int .i64 p.of, .int .i64 p.many] 48 (0, 0))) (hn : ps.length ≤ 1048576) (hlo : lo ≤ W.heap.size)
    (h : ∀ g' cap w', PartSl w' lo (.slice (some ⟨g', 0, none⟩) (ps.length + 1) cap) (ps ++ [p]) → W.grownBy w' v.ownBlock → K (a.put o.dst (.slice (some ⟨g', 0, none⟩) (ps.length + 1) cap)) w') :
    if Region.wanted o (yielded ops a.tmps) = true then Oper.wp Tryd.prog o a W K Q else E := by
  obtain ⟨i0, hi, hz0, hz1, hz2⟩ := info_parts infoP
  refine step_append_lies W hgd s x 23 ho lo 48 i0 _ 2 16 Tryd.underlying23 hi hz0 hz1 hz2 rfl (by decide) v ps.length (partCells ps) hs hown ⟨g, 0, none⟩ 1 1 [.int .i64 p.of, .int .i64 p.many] hx rfl
    (World.news_of_block (cs := #[.int .i64 p.of, .int .i64 p.many]) hg) (by simp [Value.oneCell']) (by decide) (by unfold maxLen; omega) (by omega) hlo _ rfl ?_
  intro g' cap w' h1 h2 _ _
  refine h g' cap w' ?_ h2
  unfold PartSl
  rw [List.length_append, partCells_snoc]
  exact h1

/-- The item that is being drawn lies in block X; the reader is block b. -/
def ItSt (wa : World) (b N X L : Nat) (wr : World) : Prop :=
  ∃ y v ps mk, wr.heap[X]? = some (.cells #[.int .i64 y, v, .int .i64 mk] 25 (0, 0)) ∧ PartSl wr (X + 1) v ps ∧ ps.length ≤ L ∧ Rd wr b N ∧ wa.grownBy wr (some b) ∧ wa.heap.size ≤ X ∧ b < wa.heap.size

theorem ItSt.mono {wa wr : World} {b N N' X L L' : Nat} (h : ItSt wa b N X L wr) (hN : N ≤ N') (hL : L ≤ L') : ItSt wa b N' X L' wr := by
  obtain ⟨y, v, ps, mk, h1, h2, h3, h4, r⟩ := h
  exact ⟨y, v, ps, mk, h1, h2, Nat.le_trans h3 hL, h4.mono hN, r⟩

theorem heap_lt {w : World} {X : Nat} {o : Obj} (h : w.heap[X]? = some o) : X < w.heap.size := (Array.getElem?_eq_some_iff.1 h).1

/-- What a step keeps that writes into the reader alone. -/
theorem keepPick {b X N' : Nat} {wa wr w' : World} {y mk : Int} {v : Value} {ps : List Part} (h1 : wr.heap[X]? = some (.cells #[.int .i64 y, v, .int .i64 mk] 25 (0, 0))) (h2 : PartSl wr (X + 1) v ps) (h4 : wa.grownBy wr (some b)) (h5 : wa.heap.size ≤ X) (h6 : b < wa.heap.size) (hg : wr.grownBy w' (some b)) (hR : Rd w' b N') :
    w'.heap[X]? = some (.cells #[.int .i64 y, v, .int .i64 mk] 25 (0, 0)) ∧ PartSl w' (X + 1) v ps ∧ Rd w' b N' ∧ wa.grownBy w' (some b) :=
  ⟨(hg.block X (heap_lt h1) (fun e => by injection e with e; omega)).trans h1, World.ownsRow.kept h2 hg (by
    cases e : v.ownBlock with
    | none => exact .inl rfl
    | some k => exact .inr (fun e' => by injection e' with e'; have := (World.ownsRow.lt h2 k e).1; omega)), hR, h4.trans hg⟩

theorem cellsX {w : World} {X : Nat} {y mk : Int} {v : Value} (h : w.heap[X]? = some (.cells #[.int .i64 y, v, .int .i64 mk] 25 (0, 0))) :
    w.cell? ⟨X, 0, none⟩ = some (.int .i64 y) ∧ w.cell? ⟨X, 1, none⟩ = some v ∧ w.cell? ⟨X, 2, none⟩ = some (.int .i64 mk) ∧ ∀ j, w.frozen? ⟨X, j, none⟩ = false :=
  ⟨by rw [cell_of_row w X 0 _ _ _ h]; rfl, by rw [cell_of_row w X 1 _ _ _ h]; rfl, by rw [cell_of_row w X 2 _ _ _ h]; rfl, fun j => frozen_of_row w X j _ _ h⟩

theorem stX0 {w : World} {X : Nat} {y mk : Int} {v : Value} (h : w.heap[X]? = some (.cells #[.int .i64 y, v, .int .i64 mk] 25 (0, 0))) (u : Int) : (w.setCell ⟨X, 0, none⟩ (.int .i64 u)).heap[X]? = some (.cells #[.int .i64 u, v, .int .i64 mk] 25 (0, 0)) := by
  rw [heap_setCell_same w X 0 _ _ _ h]; rfl
theorem stX1 {w : World} {X : Nat} {y mk : Int} {v : Value} (h : w.heap[X]? = some (.cells #[.int .i64 y, v, .int .i64 mk] 25 (0, 0))) (u : Value) : (w.setCell ⟨X, 1, none⟩ u).heap[X]? = some (.cells #[.int .i64 y, u, .int .i64 mk] 25 (0, 0)) := by
  rw [heap_setCell_same w X 1 _ _ _ h]; rfl
theorem stX2 {w : World} {X : Nat} {y mk : Int} {v : Value} (h : w.heap[X]? = some (.cells #[.int .i64 y, v, .int .i64 mk] 25 (0, 0))) (u : Int) : (w.setCell ⟨X, 2, none⟩ (.int .i64 u)).heap[X]? = some (.cells #[.int .i64 y, v, .int .i64 u] 25 (0, 0)) := by
  rw [heap_setCell_same w X 2 _ _ _ h]; rfl

/-- What a store into the item's block keeps. -/
theorem keepSet {b X N : Nat} {wa wr : World} {v : Value} {ps : List Part} (j : Nat) (u : Value) (h2 : PartSl wr (X + 1) v ps) (hR : Rd wr b N) (h4 : wa.grownBy wr (some b)) (h5 : wa.heap.size ≤ X) (h6 : b < wa.heap.size) :
    PartSl (wr.setCell ⟨X, j, none⟩ u) (X + 1) v ps ∧ Rd (wr.setCell ⟨X, j, none⟩ u) b N ∧ wa.grownBy (wr.setCell ⟨X, j, none⟩ u) (some b) := by
  have hs : wr.grownBy (wr.setCell ⟨X, j, none⟩ u) (some X) := ⟨rfl, rfl, rfl, by simp, fun k _ hk => heap_setCell_other wr ⟨X, j, none⟩ k u (fun e => hk (by simp [e]))⟩
  refine ⟨World.ownsRow.kept h2 hs ?_, hR.kept (fun k hk => heap_setCell_other wr ⟨X, j, none⟩ k u (by simp; omega)), ⟨hs.os.trans h4.os, hs.tape.trans h4.tape, hs.output.trans h4.output, Nat.le_trans h4.size hs.size, fun k hk hne => (heap_setCell_other wr ⟨X, j, none⟩ k u (by simp; omega)).trans (h4.block k hk hne)⟩⟩
  cases e : v.ownBlock with
  | none => exact .inl rfl
  | some k => exact .inr (fun e' => by injection e' with e'; have := (World.ownsRow.lt h2 k e).1; omega)

theorem afterPush {b X N L : Nat} {wa w4 w5 : World} {o : Obj} {y mk : Int} {v v' : Value} {ps ps' : List Part} (hX : w4.heap[X]? = some (.cells #[.int .i64 y, v, .int .i64 mk] 25 (0, 0))) (hP : PartSl w4 (X + 1) v ps) (hR : Rd w4 b N) (h4 : wa.grownBy w4 (some b)) (h5 : wa.heap.size ≤ X) (h6 : b < wa.heap.size)
    (hg : (w4.alloc o).grownBy w5 v.ownBlock) (hown : PartSl w5 (X + 1) v' ps') (hl : ps'.length ≤ L) :
    w5.heap[X]? = some (.cells #[.int .i64 y, v, .int .i64 mk] 25 (0, 0)) ∧ ItSt wa b N X L (w5.setCell ⟨X, 1, none⟩ v') := by
  have hXl := heap_lt hX
  have hsz := h4.size
  have hb : ∀ k, k ≤ X → w5.heap[k]? = w4.heap[k]? := fun k hk => (hg.block k (by simp; omega) (fun e => by have := (World.ownsRow.lt hP k e.symm).1; omega)).trans (heap_alloc_old w4 _ (by omega))
  have hX5 := (hb X (Nat.le_refl _)).trans hX
  have hR5 : Rd w5 b N := hR.kept (fun k hk => hb k (by omega))
  have hg5 : wa.grownBy w5 (some b) := ⟨hg.os.trans h4.os, hg.tape.trans h4.tape, hg.output.trans h4.output, Nat.le_trans hsz (by have := hg.size; simp at this; omega), fun k hk hne => (hb k (by omega)).trans (h4.block k hk hne)⟩
  have ks := keepSet 1 v' hown hR5 hg5 h5 h6
  exact ⟨hX5, y, v', ps', mk, stX1 hX5 v', ks.1, hl, ks.2.1, ks.2.2, h5, h6⟩

theorem keepAlloc {b X N : Nat} {wa w : World} {y mk : Int} {v : Value} {ps : List Part} (o : Obj) (hX : w.heap[X]? = some (.cells #[.int .i64 y, v, .int .i64 mk] 25 (0, 0))) (hP : PartSl w (X + 1) v ps) (hR : Rd w b N) (h4 : wa.grownBy w (some b)) :
    (w.alloc o).heap[X]? = some (.cells #[.int .i64 y, v, .int .i64 mk] 25 (0, 0)) ∧ PartSl (w.alloc o) (X + 1) v ps ∧ Rd (w.alloc o) b N ∧ wa.grownBy (w.alloc o) (some b) :=
  ⟨(heap_alloc_old w _ (heap_lt hX)).trans hX, World.ownsRow.alloc hP _, hR.kept (fun j hj => heap_alloc_old w _ (by have := hR.lt; omega)), h4.trans (World.grownBy_alloc w _ _)⟩

/-- Append of one part, in a plain region. -/
theorem wpList_push_part {W : World} {ops : Array Oper} {rest : List Oper} {o : Oper} {a : Act} {Q : Exit → Act → World → Prop} (hgd : o.guard = none) (s x : Operand)
    (ho : o.op = .call { callee := .builtin .append, args := #[s, x], argTypes := #[23, 23] }) (lo : Nat) (v : Value) (ps : List Part) (hs : a.eval s = v) (hown : PartSl W lo v ps) (g : Nat) (p : Part)
    (hx : a.eval x = .slice (some ⟨g, 0, none⟩) 1 1) (hg : W.heap[g]? = some (.cells #[.int .i64 p.of, .int .i64 p.many] 48 (0, 0))) (hn : ps.length ≤ 1048576) (hlo : lo ≤ W.heap.size)
    (h : ∀ g' cap w', PartSl w' lo (.slice (some ⟨g', 0, none⟩) (ps.length + 1) cap) (ps ++ [p]) → W.grownBy w' v.ownBlock → wpList Tryd.prog ops Q rest (a.put o.dst (.slice (some ⟨g', 0, none⟩) (ps.length + 1) cap)) w') :
    wpList Tryd.prog ops Q (o :: rest) a W := by
  obtain ⟨i0, hi, hz0, hz1, hz2⟩ := info_parts infoP
  refine wpList_append_lies W hgd s x 23 ho lo 48 i0 _ 2 16 Tryd.underlying23 hi hz0 hz1 hz2 rfl (by decide) v ps.length (partCells ps) hs hown ⟨g, 0, none⟩ 1 1 [.int .i64 p.of, .int .i64 p.many] hx rfl
    (World.news_of_block (cs := #[.int .i64 p.of, .int .i64 p.many]) hg) (by simp [Value.oneCell']) (by decide) (by unfold maxLen; omega) (by omega) hlo _ rfl ?_
  intro g' cap w' h1 h2 _ _
  refine h g' cap w' ?_ h2
  unfold PartSl
  rw [List.length_append, partCells_snoc]
  exact h1

theorem mul_bit {a c : Int} (h0 : 0 ≤ a) (h1 : a < 32) (k0 : 0 ≤ c) (k1 : c < 2) : 0 ≤ a * c ∧ a * c ≤ 31 := by
  rcases (by omega : c = 0 ∨ c = 1) with rfl | rfl
  · simp
  · simp; omega

def Drew20 (w : World) (b n : Nat) (e : Ending) (w' : World) : Prop := ∃ (x : Item) (A : Option Addr) (c : Nat), e = .returned (.agg #[.int .i64 x.yield, .slice A x.parts.length c, .int .i64 x.marks]) ∧ PartsAt w' A x.parts ∧ TB w' A 48 ∧ x.parts.length ≤ 5 ∧ Rd w' b (n + 20) ∧ w.grownBy w' (some b)

set_option maxRecDepth 100000 in
set_option maxHeartbeats 4000000 in
theorem l20Item_any (b n : Nat) (ix k : Int) (w : World) (hR : Rd w b n) (hn : n ≤ 90000) (hk : k ≤ 1000000) (hi0 : 0 ≤ ix) (hi1 : ix ≤ 6) :
    Calls Tryd.prog 20 #[.pointer (some ⟨b, 0, none⟩), .int .i64 ix, .int .i64 k] w (Drew20 w b n) := by
  have hblt := hR.lt
  have hRa : Rd (w.alloc (.cells #[.int .i64 0, .slice none 0 0, .int .i64 0] 25)) b n := hR.kept (fun j hj => heap_alloc_old w _ (by omega))
  have HRA := hide hRa
  clear hRa
  go_enter Tryd.func20, Tryd.ntmps20
  go_wp2_with fail
  refine (pick_any b n 32 _ HRA.out (by omega) (by omega)).mono ?_
  rintro e w1 ⟨v1, rfl, hv10, hv11, hR1, hg1⟩
  go_wp2_with fail
  refine (pick_any b _ 2 _ hR1 (by omega) (by omega)).mono ?_
  rintro e w2 ⟨v2, rfl, hv20, hv21, hR2, hg2⟩
  have hmb := mul_bit hv10 (by omega) hv20 (by omega)
  obtain ⟨hmb0, hmb1⟩ := hmb
  obtain ⟨wa, hwa⟩ : ∃ wa, wa = w.alloc (.cells #[.int .i64 0, .slice none 0 0, .int .i64 0] 25) := ⟨_, rfl⟩
  have hSt : ItSt wa b (n + 2) w2.heap.size 3 (w2.alloc (.cells #[.int .i64 0, .slice none 0 0, .int .i64 (v1 * v2)] 25)) := by
    subst hwa
    have hg := hg1.trans hg2
    refine ⟨0, .slice none 0 0, [], v1 * v2, heap_alloc_new w2 _, World.ownsRow_nil _ _ _ _, by simp, hR2.kept (fun j hj => heap_alloc_old w2 _ (by have := hR2.lt; omega)), hg.trans (World.grownBy_alloc w2 _ _), hg.size, by simp; omega⟩
  have HST := hide hSt
  clear hSt hR1 hR2 HRA hg1 hg2
  have hs1 : 1 ≤ n + 3 := by omega
  go_upto_region 2 with fail
  go_cut [21] (fun s21 wc => ∃ β : Bool, s21 = .bool β ∧ ItSt wa b (n + 3) w2.heap.size 3 wc)
  case first =>
    by_cases hix : 0 < ix
    · have hd : decide (0 < ix) = true := decide_eq_true hix
      obtain ⟨y, v, ps, mk, hX, hP, hl, hRd, hg, h5, h6⟩ := HST.out
      have HX := hide (And.intro hX (And.intro hP (And.intro hg (And.intro h5 h6))))
      clear hX hP hg h5 h6
      go_wp2_with fail
      refine (pick_any b _ 3 _ hRd (by omega) (by omega)).mono ?_
      rintro e w3 ⟨q, rfl, hq0, hq1, hR3, hg3⟩
      obtain ⟨hX, hP, hg, h5, h6⟩ := HX.out
      have hkp := keepPick hX hP hg h5 h6 hg3 hR3
      have HKP : Hid (ItSt wa b (n + 3) w2.heap.size 3 w3) := hide ⟨y, v, ps, mk, hkp.1, hkp.2.1, hl, hkp.2.2.1, hkp.2.2.2, h5, h6⟩
      clear hX hP hg hkp hg3 hR3
      go_wp2_with fail
      go_meet
      exact ⟨_, rfl, HKP.out⟩
    · have hd : decide (0 < ix) = false := decide_eq_false hix
      obtain ⟨y, v, ps, mk, hX, hP, hl, hRd, hg, h5, h6⟩ := HST.out
      have HKP : Hid (ItSt wa b (n + 3) w2.heap.size 3 (w2.alloc (.cells #[.int .i64 0, .slice none 0 0, .int .i64 (v1 * v2)] 25))) := hide ⟨y, v, ps, mk, hX, hP, hl, hRd.mono (by omega), hg, h5, h6⟩
      clear hX hP hRd hg
      go_wp2_with fail
      go_meet
      exact ⟨_, rfl, HKP.out⟩
  case rest =>
    obtain ⟨β, rfl, hSt⟩ := hcut
    have HS2 := hide hSt
    clear hSt HST
    generalize w2.heap.size = X at *
    go_upto_if 21 with fail
    go_cut [8] (fun s8 wc => ItSt wa b (n + 17) X 3 wc)
    case first =>
      cases β with
      | false =>
        go_wp2_with fail
        go_meet
        obtain ⟨y, v, ps, mk, hX, hP, hl, hRd, r⟩ := HS2.out
        exact ⟨y, v, ps, mk, hX, hP, hl, hRd.mono (by omega), r⟩
      | true =>
        obtain ⟨y, v, ps, mk, hX, hP, hl, hRd, hg, h5, h6⟩ := HS2.out
        have HX := hide (And.intro hX (And.intro hP (And.intro hg (And.intro h5 h6))))
        clear hX hP hg
        go_wp2_with fail
        refine (pick_any b _ 6 _ hRd (by omega) (by omega)).mono ?_
        rintro e w3 ⟨q, rfl, hq0, hq1, hR3, hg3⟩
        obtain ⟨hX, hP, hg, -, -⟩ := HX.out
        obtain ⟨hX3, hP3, -, hg3'⟩ := keepPick hX hP hg h5 h6 hg3 hR3
        have ks := keepSet 0 (.int .i64 (1 + q)) hP3 hR3 hg3' h5 h6
        have HIT : Hid (ItSt wa b (n + 4) X 3 (w3.setCell ⟨X, 0, none⟩ (.int .i64 (1 + q)))) := hide ⟨1 + q, v, ps, mk, stX0 hX3 _, ks.1, hl, ks.2.1, ks.2.2, h5, h6⟩
        obtain ⟨hx0, -, -, hxf⟩ := cellsX hX3
        have hf0 := hxf 0
        clear hX hP hg hX3 hP3 hg3' hg3 hR3 ks hxf HX
        go_wp2_with fail
        clear hx0 hf0
        go_loopw [8] (fun i wr => ∃ j : Nat, i = .int .i64 j ∧ (j : Int) ≤ ix ∧ ItSt wa b (n + 4 + 2 * j) X 3 wr) (fun i _ => (ix - intOf i).toNat)
        case atStart => exact ⟨0, rfl, hi0, HIT.out⟩
        case round =>
          obtain ⟨j, rfl, hj, y, v, ps, mk, hX, hP, hl, hRd, hg, h5, h6⟩ := hrel
          by_cases hji : (j : Int) < ix
          · have HX := hide (And.intro hX (And.intro hP hg))
            obtain ⟨A, c, hv, -⟩ := hP.form
            subst hv
            obtain ⟨-, hx1, -, -⟩ := cellsX hX
            clear hX hP hg
            by_cases hl3 : (ps.length : Int) < 3
            · go_wp2_with fail
              refine (pick_any b _ 2 _ hRd (by omega) (by omega)).mono ?_
              rintro e w4 ⟨q, rfl, hq0, hq1, hR4, hg4⟩
              obtain ⟨hX4, hP4, -, hg4'⟩ := keepPick HX.out.1 HX.out.2.1 HX.out.2.2 h5 h6 hg4 hR4
              obtain ⟨-, hx14, -, hxf4⟩ := cellsX hX4
              have HX4 := hide (And.intro hX4 (And.intro hP4 (And.intro hg4' hR4)))
              clear hX4 hP4 hg4' hg4 hR4 hx1 HX hxf4
              have hjw : IntKind.i64.wrap (ix - 1) = ix - 1 := IntWalk.i64_in _ (by omega)
              by_cases happ : q = 0 ∨ ((j : Int) = ix - 1 ∧ ps.length = 0)
              · have hfacts : (q == 0) = true ∨ ((q == 0) = false ∧ ((j : Int) == ix - 1) = true ∧ ((ps.length : Int) == 0) = true) := by
                  rcases happ with h | ⟨h1, h2⟩
                  · exact .inl (by simp [h])
                  · by_cases h : q = 0
                    · exact .inl (by simp [h])
                    · exact .inr ⟨by simp [h], by simp [h1], by simp [h2]⟩
                clear happ
                have HPK : Hid (Calls Tryd.prog 30 #[.pointer (some ⟨b, 0, none⟩), .int .i64 4] w4.drew (Picked w4 b (n + 4 + 2 * j + 1) 4)) := hide ((pick_any b (n + 4 + 2 * j + 1) 4 w4.drew HX4.out.2.2.2 (by omega) (by omega)).mono fun _ _ h => Picked.undrew h)
                rcases hfacts with h1 | ⟨h1, h2, h3⟩
                all_goals
                  go_wp2_with fail
                  go_region_law (first | (refine step_push_part (by rfl) _ _ (by rfl) (X + 1) (.slice A ps.length c) ps (by rfl) (World.ownsRow.alloc hP5 _) w5.heap.size ⟨j, 1 + q5⟩ (by rfl) (heap_alloc_new w5 _) (by omega) (by simp; omega) ?_; intro g' cap w6 hown hgrow; obtain ⟨hX6, hI6⟩ := afterPush (L := 3) hX5 hP5 hR5 hg5' h5 h6 hgrow hown (by simp; omega); have HI6 := hide hI6; obtain ⟨-, hx16, -, hxf6⟩ := cellsX hX6; have hf6 := hxf6 1; clear hI6 hown hgrow hX6 hxf6) | (go_simp; go_at_call 30; refine HPK.out.mono ?_; rintro e w5 ⟨q5, rfl, hq50, hq51, hR5, hg5⟩; obtain ⟨hX5, hP5, -, hg5'⟩ := keepPick HX4.out.1 HX4.out.2.1 HX4.out.2.2.1 h5 h6 hg5 hR5; obtain ⟨-, hx15, -, -⟩ := cellsX hX5; have hw5 : IntKind.i64.wrap (1 + q5) = 1 + q5 := IntWalk.i64_in _ (by omega); have hXl := heap_lt hX5))
                  all_goals
                    go_wp2_with fail
                    go_roundw
                    case rel => exact ⟨j + 1, by go_num, by omega, HI6.out.mono (by omega) (by omega)⟩
                    case measure => simp [intOf]; omega
              · have h1 : (q == 0) = false := by
                  have h4 : ¬ q = 0 := fun h => happ (.inl h)
                  simpa using h4
                by_cases hje : (j : Int) = ix - 1
                · have h2 : ((j : Int) == ix - 1) = true := by simp [hje]
                  have h3 : ((ps.length : Int) == 0) = false := by
                    have h4 : ¬ ps.length = 0 := fun h => happ (.inr ⟨hje, h⟩)
                    simpa using h4
                  clear hje happ
                  go_wp2_with fail
                  go_roundw
                  case rel => exact ⟨j + 1, by go_num, by omega, y, _, ps, mk, HX4.out.1, HX4.out.2.1, hl, HX4.out.2.2.2.mono (by omega), HX4.out.2.2.1, h5, h6⟩
                  case measure => simp [intOf]; omega
                · have h2 : ((j : Int) == ix - 1) = false := by simp [hje]
                  clear hje happ
                  go_wp2_with fail
                  go_roundw
                  case rel => exact ⟨j + 1, by go_num, by omega, y, _, ps, mk, HX4.out.1, HX4.out.2.1, hl, HX4.out.2.2.2.mono (by omega), HX4.out.2.2.1, h5, h6⟩
                  case measure => simp [intOf]; omega
            · go_wp2_with fail
              go_meet
              exact ⟨y, _, ps, mk, HX.out.1, HX.out.2.1, hl, hRd.mono (by omega), HX.out.2.2, h5, h6⟩
          · go_wp2_with fail
            go_meet
            exact ⟨y, v, ps, mk, hX, hP, hl, hRd.mono (by omega), hg, h5, h6⟩
    case rest =>
      obtain ⟨y, v, ps, mk, hX, hP, hl, hRd, hg, h5, h6⟩ := hcut
      have HX := hide (And.intro hX (And.intro hP hg))
      clear hX hP hg HS2
      go_wp2_with fail
      refine (odd_any b _ k _ hRd (by omega) hk).mono ?_
      rintro e w3 ⟨β, rfl, hR3, hg3⟩
      obtain ⟨hX3, hP3, -, hg3'⟩ := keepPick HX.out.1 HX.out.2.1 HX.out.2.2 h5 h6 hg3 hR3
      have HS3 : Hid (ItSt wa b (n + 18) X 3 w3) := hide ⟨y, v, ps, mk, hX3, hP3, hl, hR3, hg3', h5, h6⟩
      clear hX3 hP3 hg3' hR3 hg3 HX hRd h5 h6 hl
      go_upto_if 64 with fail
      go_cut [8] (fun s8 wc => ItSt wa b (n + 20) X 5 wc)
      case first =>
        cases β with
        | false =>
          go_wp2_with fail
          go_meet
          exact HS3.out.mono (by omega) (by omega)
        | true =>
          obtain ⟨y, v, ps, mk, hX, hP, hl, hRd, hg, h5, h6⟩ := HS3.out
          have HX := hide (And.intro hX (And.intro hP hg))
          clear hX hP hg
          go_wp2_with fail
          refine (pick_any b _ 4 _ hRd (by omega) (by omega)).mono ?_
          rintro e w4 ⟨q, rfl, hq0, hq1, hR4, hg4⟩
          obtain ⟨hX4, hP4, -, hg4'⟩ := keepPick HX.out.1 HX.out.2.1 HX.out.2.2 h5 h6 hg4 hR4
          obtain ⟨A, c, hv, -⟩ := hP4.form
          subst hv
          obtain ⟨hx40, hx41, hx42, hxf4⟩ := cellsX hX4
          have hXl := heap_lt hX4
          have hf0 := hxf4 0
          have hf1 := hxf4 1
          have hf2 := hxf4 2
          have HX4 := hide (And.intro hX4 (And.intro hP4 (And.intro hg4' hR4)))
          clear hX4 hP4 hg4' hg4 hR4 HX hxf4 HS3 hRd
          rcases (by omega : q = 0 ∨ q = 1 ∨ q = 2 ∨ q = 3) with rfl | rfl | rfl | rfl
          · have ka := keepAlloc (.cells #[.int .i64 (-1), .int .i64 32] 3) HX4.out.1 HX4.out.2.1 HX4.out.2.2.2 HX4.out.2.2.1
            have HKA := hide ka
            have hbk := heap_alloc_new w4 (.cells #[.int .i64 (-1), .int .i64 32] 3)
            have HBK := hide hbk
            clear ka hbk hx40 hx41 hx42 hf0 hf1 hf2
            go_wp2_with fail
            refine (pick_any b _ 2 _ HKA.out.2.2.1 (by omega) (by omega)).mono ?_
            rintro e w5 ⟨q5, rfl, hq50, hq51, hR5, hg5⟩
            obtain ⟨hX5, hP5, -, hg5'⟩ := keepPick HKA.out.1 HKA.out.2.1 HKA.out.2.2.2 h5 h6 hg5 hR5
            obtain ⟨hx50, hx51, hx52, hxf5⟩ := cellsX hX5
            have hf52 := hxf5 2
            have hblk := (hg5.block w4.heap.size (by simp) (fun e => by injection e with e; omega)).trans HBK.out
            have hc0 : w5.cell? ⟨w4.heap.size, 0, none⟩ = some (.int .i64 (-1)) := by rw [cell_of_row w5 _ 0 _ _ _ hblk]; rfl
            have hc1 : w5.cell? ⟨w4.heap.size, 1, none⟩ = some (.int .i64 32) := by rw [cell_of_row w5 _ 1 _ _ _ hblk]; rfl
            have HIT : Hid (∀ u : Int, ItSt wa b (n + 20) X 5 (w5.setCell ⟨X, 2, none⟩ (.int .i64 u))) := hide (fun u => by
              have ks := keepSet 2 (.int .i64 u) hP5 hR5 hg5' h5 h6
              exact ⟨y, _, ps, u, stX2 hX5 u, ks.1, by omega, ks.2.1.mono (by omega), ks.2.2, h5, h6⟩)
            clear hX5 hP5 hg5' hg5 hR5 hblk hxf5 hx50 hx51
            rcases (by omega : q5 = 0 ∨ q5 = 1) with rfl | rfl
            all_goals
              go_wp2_with fail
              go_meet
              exact HIT.out _
          · have ka := keepAlloc (.cells #[.int .i64 (-1), .int .i64 7] 3) HX4.out.1 HX4.out.2.1 HX4.out.2.2.2 HX4.out.2.2.1
            have HKA := hide ka
            have hbk := heap_alloc_new w4 (.cells #[.int .i64 (-1), .int .i64 7] 3)
            have HBK := hide hbk
            clear ka hbk hx40 hx41 hx42 hf0 hf1 hf2
            go_wp2_with fail
            refine (pick_any b _ 2 _ HKA.out.2.2.1 (by omega) (by omega)).mono ?_
            rintro e w5 ⟨q5, rfl, hq50, hq51, hR5, hg5⟩
            obtain ⟨hX5, hP5, -, hg5'⟩ := keepPick HKA.out.1 HKA.out.2.1 HKA.out.2.2.2 h5 h6 hg5 hR5
            obtain ⟨hx50, hx51, hx52, hxf5⟩ := cellsX hX5
            have hf50 := hxf5 0
            have hblk := (hg5.block w4.heap.size (by simp) (fun e => by injection e with e; omega)).trans HBK.out
            have hc0 : w5.cell? ⟨w4.heap.size, 0, none⟩ = some (.int .i64 (-1)) := by rw [cell_of_row w5 _ 0 _ _ _ hblk]; rfl
            have hc1 : w5.cell? ⟨w4.heap.size, 1, none⟩ = some (.int .i64 7) := by rw [cell_of_row w5 _ 1 _ _ _ hblk]; rfl
            have HIT : Hid (∀ u : Int, ItSt wa b (n + 20) X 5 (w5.setCell ⟨X, 0, none⟩ (.int .i64 u))) := hide (fun u => by
              have ks := keepSet 0 (.int .i64 u) hP5 hR5 hg5' h5 h6
              exact ⟨u, _, ps, mk, stX0 hX5 u, ks.1, by omega, ks.2.1.mono (by omega), ks.2.2, h5, h6⟩)
            clear hX5 hP5 hg5' hg5 hR5 hblk hxf5 hx51 hx52
            rcases (by omega : q5 = 0 ∨ q5 = 1) with rfl | rfl
            all_goals
              go_wp2_with fail
              go_meet
              exact HIT.out _
          · clear hx40 hx42 hf0 hf1 hf2
            go_wp2_with (at_builtin; refine wpList_push_part rfl _ _ rfl (X + 1) (.slice A ps.length c) ps rfl (World.ownsRow.alloc HX4.out.2.1 _) w4.heap.size ⟨ix, 1⟩ rfl (heap_alloc_new w4 _) (by omega) (by simp; omega) ?_; intro g' cap w6 hown hgrow; obtain ⟨hX6, hI6⟩ := afterPush (L := 5) HX4.out.1 HX4.out.2.1 HX4.out.2.2.2 HX4.out.2.2.1 h5 h6 hgrow hown (by simp; omega); have HI6 := hide hI6; obtain ⟨-, hx61, -, hxf6⟩ := cellsX hX6; have hf6 := hxf6 1; clear hI6 hown hgrow hX6 hxf6)
            go_meet
            exact HI6.out.mono (by omega) (by omega)
          · go_wp2_with fail
            go_meet
            have k1 := keepSet 0 (.int .i64 2) HX4.out.2.1 HX4.out.2.2.2 HX4.out.2.2.1 h5 h6
            have k2 := keepSet 1 (.slice none 0 0) k1.1 k1.2.1 k1.2.2 h5 h6
            have k3 := keepSet 2 (.int .i64 0) k2.1 k2.2.1 k2.2.2 h5 h6
            exact ⟨2, .slice none 0 0, [], 0, stX2 (stX1 (stX0 HX4.out.1 2) _) 0, World.ownsRow_nil _ _ _ _, by simp, k3.2.1.mono (by omega), k3.2.2, h5, h6⟩
      case rest =>
        obtain ⟨y, v, ps, mk, hX, hP, hl, hRd, hg, h5, h6⟩ := hcut
        obtain ⟨A, c, hv, hpa⟩ := hP.form
        subst hv
        obtain ⟨hx0, hx1, hx2, hxf⟩ := cellsX hX
        have hRb : wc.heap[w.heap.size]? = some (.cells #[.int .i64 0, .slice none 0 0, .int .i64 0] 25 (0, 0)) := by
          refine (hg.block w.heap.size (by rw [hwa]; simp) (fun e => by injection e with e; omega)).trans ?_
          rw [hwa]
          exact heap_alloc_new w _
        obtain ⟨hr0, hr1, hr2, hrf⟩ := cellsX hRb
        have hrf0 := hrf 0
        have hrf1 := hrf 1
        have hrf2 := hrf 2
        have hne : X ≠ w.heap.size := by rw [hwa] at h5; simp at h5; omega
        have HX := hide (And.intro hX (And.intro hP (And.intro hg hRb)))
        clear hX hP hg hRb hxf hrf HS3
        go_wp2_with fail
        obtain ⟨f0, f1, f2, -⟩ := cellsX (stX2 (stX1 (stX0 HX.out.2.2.2 y) (.slice A ps.length c)) mk)
        have hsb : ∀ j, j ≠ w.heap.size → (((wc.setCell ⟨w.heap.size, 0, none⟩ (.int .i64 y)).setCell ⟨w.heap.size, 1, none⟩ (.slice A ps.length c)).setCell ⟨w.heap.size, 2, none⟩ (.int .i64 mk)).heap[j]? = wc.heap[j]? := fun j hj => by
          rw [heap_setCell_other _ ⟨w.heap.size, 2, none⟩ j _ hj, heap_setCell_other _ ⟨w.heap.size, 1, none⟩ j _ hj, heap_setCell_other _ ⟨w.heap.size, 0, none⟩ j _ hj]
        refine bodyPost_ret (v := .agg #[.int .i64 y, .slice A ps.length c, .int .i64 mk]) (by simp [results, Tryd.results20, go_sem, f0, f1, f2]) rfl ⟨⟨y, ps, mk⟩, A, c, rfl, ?_, ?_, hl, hRd.kept (fun j hj => hsb j (by omega)), ?_⟩
        · have hg : wc.grownBy (((wc.setCell ⟨w.heap.size, 0, none⟩ (.int .i64 y)).setCell ⟨w.heap.size, 1, none⟩ (.slice A ps.length c)).setCell ⟨w.heap.size, 2, none⟩ (.int .i64 mk)) (some w.heap.size) := ⟨rfl, rfl, rfl, by simp, fun j _ hj => hsb j (fun e => hj (by rw [e]))⟩
          have hP' : PartSl _ (X + 1) (.slice A ps.length c) ps := World.ownsRow.kept HX.out.2.1 hg (by
            cases e : (Value.slice A ps.length c).ownBlock with
            | none => exact .inl rfl
            | some j => exact .inr (fun e' => by injection e' with e'; have := (World.ownsRow.lt HX.out.2.1 j e).1; rw [hwa] at h5; simp at h5; omega))
          obtain ⟨A', c', e, hpa'⟩ := hP'.form
          injection e with e
          rw [← e] at hpa'
          exact hpa'
        · have ht := HX.out.2.1.tb
          intro a ha
          obtain ⟨hsp, cs, hcs⟩ := ht a ha
          refine ⟨hsp, cs, (hsb _ (fun e => ?_)).trans hcs⟩
          have hb := World.ownsRow.lt HX.out.2.1 a.block (by rw [ha]; rfl)
          rw [hwa] at h5
          simp at h5
          omega
        · have hg := HX.out.2.2.1
          rw [hwa] at hg
          exact ⟨hg.os, hg.tape, hg.output, (by have := hg.size; simp only [World.size_alloc] at this; simp; omega), fun j hj hne => (hsb j (by omega)).trans ((hg.block j (by simp; omega) hne).trans (heap_alloc_old w _ hj))⟩
end Go.Proofs.YtaelapimchmbcaaDoor
