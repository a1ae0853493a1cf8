/- Contract of PlanLeast of the program: it returns the least plan, in memory of its own.
   Conditions: all lists have at most 1048576 elements. -/
import Derived.Test.YtjegebnnlomcpaaDoorPlanMath
import Derived.Test.YtjegebnnlomcpaaDoorZeros
import Derived.Deep.RegionLaw
import Derived.Deep.DeepCutAuto
namespace Go.Proofs.YtjegebnnlomcpaaDoor
open Go.RowKit

def planRunsL (l : List Item) (want stock : List Int) : List Int := if amountsOk l want stock = true then lstL l want stock else []
def planLeftL (l : List Item) (want stock : List Int) : List Int := if amountsOk l want stock = true then leastLeft l want stock else []

/-- What PlanLeast answers. -/
def PlanRes (l : List Item) (want stock : List Int) (w : World) (e : Ending) (w' : World) : Prop :=
  ∃ v u, e = .returned (.tuple #[.agg #[v, u], .bool (amountsOk l want stock)]) ∧ IntSl w' w.heap.size v (planRunsL l want stock) ∧ IntSl w' w.heap.size u (planLeftL l want stock) ∧
    (v.ownBlock = none ∨ v.ownBlock ≠ u.ownBlock) ∧ Below w.heap.size w w'

set_option maxRecDepth 100000 in
set_option maxHeartbeats 400000 in
theorem runsFor_any (A : Option Addr) (c n : Nat) (y m lack : Int) (w : World) (h0 : 0 ≤ y) (h1 : y ≤ 6) (k0 : -1000 ≤ lack) (k1 : lack ≤ 3000000000) :
    Calls Tryd.prog 23 #[.agg #[.int .i64 y, .slice A n c, .int .i64 m], .int .i64 lack] w fun e w' => e = .returned (.int .i64 (runsI y lack)) ∧ Below w.heap.size w w' := by
  by_cases hl : lack ≤ 0
  · have HR : Hid (runsI y lack = 0) := by unfold runsI; rw [if_pos hl]; exact hide rfl
    go_enter Tryd.func23, Tryd.ntmps23
    go_wp2_with fail
    go_ret
    exact ⟨by rw [HR.out]; rfl, by go_grown⟩
  · by_cases h : 0 < y
    · have HM : Hid (decide (0 < y) = true) := hide (decide_eq_true h)
      have HR : Hid (runsI y lack = (lack + y - 1) / y) := by unfold runsI; rw [if_neg hl, if_pos h]; exact hide rfl
      have hnn : 0 ≤ lack + y - 1 := by omega
      have hne : ¬ y = 0 := by omega
      clear h
      go_enter Tryd.func23, Tryd.ntmps23
      go_wp2_with fail
      refine (isMade_is _ _ _ _ _ _ HM _).mono ?_
      rintro e w' ⟨rfl, hB⟩
      have hc : ∀ o, w'.cell? ⟨w.heap.size, o, none⟩ = _ := fun o => hB.cell (p := ⟨w.heap.size, o, none⟩) (by simp)
      have hb : Below w.heap.size w w' := Below.trans (by go_grown) (hB.mono (by simp))
      go_wp2_with fail
      go_ret
      exact ⟨by rw [HR.out]; rfl, hb⟩
    · have HM : Hid (decide (0 < y) = false) := hide (decide_eq_false h)
      have HR : Hid (runsI y lack = lack) := by unfold runsI; rw [if_neg hl, if_neg h]; exact hide rfl
      clear h
      go_enter Tryd.func23, Tryd.ntmps23
      go_wp2_with fail
      refine (isMade_is _ _ _ _ _ _ HM _).mono ?_
      rintro e w' ⟨rfl, hB⟩
      have hb : Below w.heap.size w w' := Below.trans (by go_grown) (hB.mono (by simp))
      go_wp2_with fail
      go_ret
      exact ⟨by rw [HR.out]; rfl, hb⟩

/-- What lies in a cell, whatever it is: so that a region's condition may speak of a cell into which its last operation stores. -/
def cv (W : World) (a : Addr) : Value := (W.cell? a).getD undef
theorem cv_of {W : World} {a : Addr} {v : Value} (h : W.cell? a = some v) : W.cell? a = some (cv W a) := by unfold cv; rw [h]; rfl

/-- What the loop of the program's PlanLeast knows. -/
structure PL (l : List Item) (want stock rs : List Int) (M X gR gL kR kL kM : Nat) (w2 wr : World) : Prop where
  below : Below w2.heap.size w2 wr
  box : wr.rowIs X 33 2 (fun j => if j = 0 then .slice (some ⟨gR, 0, none⟩) l.length l.length else .slice (some ⟨gL, 0, none⟩) l.length l.length)
  rr : wr.rowIs gR 3 l.length (fun j => .int .i64 (if kR ≤ j then rs.getD j 0 else 0))
  rl : wr.rowIs gL 3 l.length (fun j => .int .i64 (if kL ≤ j then leftAt l want stock rs j else 0))
  mp : MapIs wr M (3 * (l.length - kM)) (fun j => upS l rs j l.length - upS l rs j kM)

section
variable {l : List Item} {want stock rs : List Int} {M X gR gL kR kL kM : Nat} {w2 wr W : World}
theorem PL.next (h : PL l want stock rs M X gR gL kR kL kM w2 wr) (hb : Below wr.heap.size wr W) : PL l want stock rs M X gR gL kR kL kM w2 W :=
  ⟨Go.Proofs.YtjegebnnlomcpaaDoor.next h.below hb, h.box.of_block (hb.block _ h.box.lt), h.rr.of_block (hb.block _ h.rr.lt), h.rl.of_block (hb.block _ h.rl.lt), h.mp.below hb⟩
theorem PL.drew (h : PL l want stock rs M X gR gL kR kL kM w2 wr) : PL l want stock rs M X gR gL kR kL kM w2 wr.drew := ⟨h.below.drew, h.box, h.rr, h.rl, h.mp⟩
theorem PL.setR {k : Nat} (h : PL l want stock rs M X gR gL (k + 1) kL kM w2 wr) (h0 : w2.heap.size ≤ gR) (h1 : gR ≠ gL) (h2 : gR ≠ X) (h3 : gR ≠ M) : PL l want stock rs M X gR gL k kL kM w2 (wr.setCell ⟨gR, k, none⟩ (.int .i64 (rs.getD k 0))) := by
  refine ⟨h.below.grown (grown_set wr gR k _) h.below.size (fun j hj => by injection hj with hj; omega), h.box.setOther (by show X ≠ gR; omega) _, (h.rr.set k _).congr (fun j hj => ?_), h.rl.setOther (by show gL ≠ gR; omega) _, ?_⟩
  · show (if j = k then Value.int .i64 (rs.getD k 0) else _) = _
    by_cases e : j = k
    · subst e; rw [if_pos rfl, if_pos (Nat.le_refl _)]
    · rw [if_neg e]
      by_cases e' : k + 1 ≤ j
      · rw [if_pos e', if_pos (by omega)]
      · rw [if_neg e', if_neg (by omega)]
  · obtain ⟨D, ⟨es, clock, hm, r⟩, q⟩ := h.mp
    exact ⟨D, ⟨es, clock, (heap_setCell_other wr ⟨gR, k, none⟩ M _ (by show M ≠ gR; omega)).trans hm, r⟩, q⟩
theorem PL.setL {k : Nat} {v : Int} (h : PL l want stock rs M X gR gL kR (k + 1) kM w2 wr) (h0 : w2.heap.size ≤ gL) (h1 : gL ≠ gR) (h2 : gL ≠ X) (h3 : gL ≠ M) (hv : leftAt l want stock rs k = v) : PL l want stock rs M X gR gL kR k kM w2 (wr.setCell ⟨gL, k, none⟩ (.int .i64 v)) := by
  subst hv
  refine ⟨h.below.grown (grown_set wr gL k _) h.below.size (fun j hj => by injection hj with hj; omega), h.box.setOther (by show X ≠ gL; omega) _, h.rr.setOther (by show gR ≠ gL; omega) _, (h.rl.set k _).congr (fun j hj => ?_), ?_⟩
  · show (if j = k then Value.int .i64 (leftAt l want stock rs k) else _) = _
    by_cases e : j = k
    · subst e; rw [if_pos rfl, if_pos (Nat.le_refl _)]
    · rw [if_neg e]
      by_cases e' : k + 1 ≤ j
      · rw [if_pos e', if_pos (by omega)]
      · rw [if_neg e', if_neg (by omega)]
  · obtain ⟨D, ⟨es, clock, hm, r⟩, q⟩ := h.mp
    exact ⟨D, ⟨es, clock, (heap_setCell_other wr ⟨gL, k, none⟩ M _ (by show M ≠ gL; omega)).trans hm, r⟩, q⟩
theorem PL.need {n' : Nat} {f : Nat → Int} {k : Nat} (h : PL l want stock rs M X gR gL kR kL (k + 1) w2 wr) (hb : Below M wr W) (hm : MapIs W M n' f) (h0 : w2.heap.size ≤ M) (h1 : gR < M) (h2 : gL < M) (h3 : X < M) (hn : n' ≤ 3 * (l.length - k)) (hf : ∀ j, f j = upS l rs j l.length - upS l rs j k) :
    PL l want stock rs M X gR gL kR kL k w2 W :=
  ⟨h.below.trans (hb.mono h0), h.box.of_block (hb.block _ h3), h.rr.of_block (hb.block _ h1), h.rl.of_block (hb.block _ h2), (hm.mono hn).congr hf⟩
theorem PL.x0 (h : PL l want stock rs M X gR gL kR kL kM w2 wr) : wr.cell? ⟨X, 0, none⟩ = some (.slice (some ⟨gR, 0, none⟩) l.length l.length) := h.box.cell (i := 0) (by omega)
theorem PL.x1 (h : PL l want stock rs M X gR gL kR kL kM w2 wr) : wr.cell? ⟨X, 1, none⟩ = some (.slice (some ⟨gL, 0, none⟩) l.length l.length) := h.box.cell (i := 1) (by omega)
theorem PL.atR {k : Nat} {r : Int} (h : PL l want stock rs M X gR gL kR kL kM w2 wr) (hk : kR ≤ k) (hl : k < l.length) (hr : rs.getD k 0 = r) : wr.cell? ⟨gR, k, none⟩ = some (.int .i64 r) := by
  have := h.rr.cell hl
  rw [if_pos hk, hr] at this
  exact this
end

theorem heap_ltP {w : World} {X : Nat} {o : Obj} (h : w.heap[X]? = some o) : X < w.heap.size := (Array.getElem?_eq_some_iff.1 h).1
theorem made_row {W : World} {g n : Nat} (h : W.heap[g]? = some (.cells (madeCells #[.int .i64 0] n) 3 (0, 0))) : W.rowIs g 3 n (fun _ => .int .i64 0) :=
  ⟨_, h, size_madeCells _ _, fun i hi => by simp [madeCells, hi, Nat.mod_one]⟩
theorem heap_alloc3 (w : World) (a b c : Obj) : (((w.alloc a).alloc b).alloc c).heap[w.heap.size]? = some a ∧ (((w.alloc a).alloc b).alloc c).heap[w.heap.size + 1]? = some b ∧ (((w.alloc a).alloc b).alloc c).heap[w.heap.size + 1 + 1]? = some c := by
  have h1 := heap_alloc_new w a
  have h2 := heap_alloc_new (w.alloc a) b
  have h3 := heap_alloc_new ((w.alloc a).alloc b) c
  simp only [World.size_alloc] at h2 h3
  refine ⟨?_, ?_, h3⟩
  · rw [heap_alloc_old _ _ (by simp; omega), heap_alloc_old _ _ (by simp)]; exact h1
  · rw [heap_alloc_old _ _ (by simp)]; exact h2
theorem planBox {W : World} {X n gR gL : Nat} (h : W.heap[X]? = some (.cells #[.slice (some ⟨gR, 0, none⟩) n n, .slice (some ⟨gL, 0, none⟩) n n] 33 (0, 0))) :
    W.rowIs X 33 2 (fun j => if j = 0 then .slice (some ⟨gR, 0, none⟩) n n else .slice (some ⟨gL, 0, none⟩) n n) :=
  ⟨_, h, rfl, fun i hi => by rcases (by omega : i = 0 ∨ i = 1) with rfl | rfl <;> rfl⟩
/-- What PlanLeast lays ahead of its loop. -/
structure LaidP (l : List Item) (X gR gL : Nat) (w2 wc : World) : Prop where
  below : Below w2.heap.size w2 wc
  box : wc.heap[X]? = some (.cells #[.slice (some ⟨gR, 0, none⟩) l.length l.length, .slice (some ⟨gL, 0, none⟩) l.length l.length] 33 (0, 0))
  rr : wc.rowIs gR 3 l.length (fun _ => .int .i64 0)
  rl : wc.rowIs gL 3 l.length (fun _ => .int .i64 0)
  a1 : gR ≠ gL
  a2 : gR ≠ X
  a3 : gL ≠ X
  b1 : w2.heap.size ≤ gR
  b2 : w2.heap.size ≤ gL
  b3 : w2.heap.size ≤ X
  c1 : gR < wc.heap.size
  c2 : gL < wc.heap.size
  c3 : X < wc.heap.size

set_option maxRecDepth 100000 in
set_option maxHeartbeats 4000000 in
theorem implPlanLeast_any (A A' A'' : Option Addr) (c c' c'' : Nat) (l : List Item) (want stock : List Int) (w : World) (hA : ItemsAt w A l) (hl : l.length ≤ 1048576) (hp : ∀ x ∈ l, x.parts.length ≤ 1048576)
    (hX : IntsAt w A' want) (hx : want.length ≤ 1048576) (hY : IntsAt w A'' stock) (hy : stock.length ≤ 1048576) :
    Calls Tryd.prog 8 #[.slice A l.length c, .slice A' want.length c', .slice A'' stock.length c''] w (PlanRes l want stock w) := by
  have HP := hide hp
  clear hp
  have hmm := @run_makeMap Tryd.prog
  cases hI : amountsOk l want stock with
  | false =>
    have HI := hide hI
    clear hmm
    go_enter Tryd.func8, Tryd.ntmps8
    go_wp2_with fail
    refine (amountsFit_any _ _ _ _ _ _ _ _ _ _ (hA.below (by go_grown)) hl HP.out (hX.below (by go_grown)) hx (hY.below (by go_grown)) hy).mono ?_
    rintro e w1 ⟨rfl, hB⟩
    rw [HI.out]
    have hb : Below w.heap.size w w1 := Below.trans (by go_grown) (hB.mono (by simp))
    have hbk : w1.heap[w.heap.size]? = some (.cells #[.slice none 0 0, .slice none 0 0] 33 (0, 0)) := (hB.block w.heap.size (by simp)).trans (heap_alloc_new w _)
    obtain ⟨hc1, hc2, hf⟩ : w1.cell? ⟨w.heap.size, 0, none⟩ = some (.slice none 0 0) ∧ w1.cell? ⟨w.heap.size, 1, none⟩ = some (.slice none 0 0) ∧ ∀ j, w1.frozen? ⟨w.heap.size, j, none⟩ = false := ⟨by rw [cell_of_row w1 _ 0 _ _ _ hbk]; rfl, by rw [cell_of_row w1 _ 1 _ _ _ hbk]; rfl, fun j => frozen_of_row w1 _ j _ _ hbk⟩
    have hf0 := hf 0
    have hf1 := hf 1
    clear hf hI
    go_wp2_with fail
    have hbk2 : ((w1.setCell ⟨w.heap.size, 0, none⟩ (.slice none 0 0)).setCell ⟨w.heap.size, 1, none⟩ (.slice none 0 0)).rowIs w.heap.size 33 2 (fun _ => .slice none 0 0) := by
      have h0 : w1.rowIs w.heap.size 33 2 (fun _ => .slice none 0 0) := ⟨_, hbk, rfl, fun i hi => by rcases (by omega : i = 0 ∨ i = 1) with rfl | rfl <;> rfl⟩
      exact ((h0.set 0 _).set 1 _).congr (fun i hi => by rcases (by omega : i = 0 ∨ i = 1) with rfl | rfl <;> rfl)
    have f0 := hbk2.cell (i := 0) (by omega)
    have f1 := hbk2.cell (i := 1) (by omega)
    refine bodyPost_ret (v := .tuple #[.agg #[.slice none 0 0, .slice none 0 0], .bool false]) (by simp [results, Tryd.results8, go_sem, f0, f1]) rfl ⟨.slice none 0 0, .slice none 0 0, by rw [HI.out], ?_, ?_, .inl rfl, by go_grown⟩
    · unfold planRunsL; rw [HI.out]; exact World.ownsRow_nil _ _ _ _
    · unfold planLeftL; rw [HI.out]; exact World.ownsRow_nil _ _ _ _
  | true =>
    have HI := hide hI
    obtain ⟨hI1, ⟨hI2, hI3⟩, ⟨hI4, hI5⟩⟩ := amountsOk_at hI
    obtain ⟨hI2a, hI2b⟩ := eqLe hI2
    obtain ⟨hI4a, hI4b⟩ := eqLe hI4
    have HI1 := hide hI1
    have HI3 := hide hI3
    have HI5 := hide hI5
    have hl6 := itemsOk_len hI1
    have HFX : Hid (∀ i, i < l.length → (lstL l want stock).getD i 0 = runsI (l.getD i nil0).yield (lackAt l want stock (lstL l want stock) i)) := hide (fun i hi => lstL_at hI1 hi)
    have HQ2 := hide (lstL_range hI)
    have HRL := hide (lstL_len l want stock)
    have HLF : Hid (leastLeft l want stock = tab l.length (leftAt l want stock (lstL l want stock))) := hide rfl
    clear hI1 hI2 hI3 hI4 hI5 hI
    obtain ⟨rs, HRS⟩ : ∃ rs, Hid (lstL l want stock = rs) := ⟨_, hide rfl⟩
    rw [HRS.out] at HFX HQ2 HRL HLF
    have hmk : ∀ W, (Instr.makeSlice 24 (.int .i64 (l.length : Int)) (.int .i64 (l.length : Int))).run Tryd.prog W = .ok (.slice (some ⟨W.heap.size, 0, none⟩) l.length l.length) (W.alloc (.cells (madeCells #[.int .i64 0] l.length) 3)) := make_ints l.length hl
    go_enter Tryd.func8, Tryd.ntmps8
    go_wp2_with fail
    refine (amountsFit_any _ _ _ _ _ _ _ _ _ _ (hA.below (by go_grown)) hl HP.out (hX.below (by go_grown)) hx (hY.below (by go_grown)) hy).mono ?_
    rintro e w2 ⟨rfl, hB⟩
    rw [HI.out]
    have hb2 : Below w.heap.size w w2 := Below.trans (by go_grown) (hB.mono (by simp))
    have hbk : w2.heap[w.heap.size]? = some (.cells #[.slice none 0 0, .slice none 0 0] 33 (0, 0)) := (hB.block w.heap.size (by simp)).trans (heap_alloc_new w _)
    have HBK := hide hbk
    clear hbk hB
    go_wp2_with fail
    go_upto_region 3 with fail
    go_cut [8] (fun s8 wc => ∃ X gR gL, s8 = .pointer (some ⟨X, 0, none⟩) ∧ LaidP l X gR gL w2 wc)
    case first =>
      go_region
      all_goals
        go_wp2_with fail
        go_meet
        apply Exists.intro
        apply Exists.intro
        apply Exists.intro
        exact ⟨rfl, by go_grown, by first | exact (heap_alloc3 _ _ _ _).1 | exact (heap_alloc3 _ _ _ _).2.1 | exact (heap_alloc3 _ _ _ _).2.2, made_row (by first | exact (heap_alloc3 _ _ _ _).1 | exact (heap_alloc3 _ _ _ _).2.1 | exact (heap_alloc3 _ _ _ _).2.2), made_row (by first | exact (heap_alloc3 _ _ _ _).1 | exact (heap_alloc3 _ _ _ _).2.1 | exact (heap_alloc3 _ _ _ _).2.2), by first | omega | (simp; done) | (simp; omega), by first | omega | (simp; done) | (simp; omega), by first | omega | (simp; done) | (simp; omega), by first | omega | (simp; done) | (simp; omega), by first | omega | (simp; done) | (simp; omega), by first | omega | (simp; done) | (simp; omega), by first | omega | (simp; done) | (simp; omega), by first | omega | (simp; done) | (simp; omega), by first | omega | (simp; done) | (simp; omega)⟩
    case rest =>
      obtain ⟨X, gR, gL, rfl, hLd⟩ := hcut
      have HLD := hide hLd
      clear hLd hmk
      go_wp2_with fail
      go_loopw [10] (fun i wr => ∃ (k : Nat) (j : Int), k ≤ l.length ∧ j + 1 = k ∧ i = .int .i64 j ∧ PL l want stock rs wc.heap.size X gR gL k k k w2 wr) (fun i _ => (intOf i + 1).toNat)
      case atStart =>
        refine ⟨l.length, (l.length : Int) - 1, Nat.le_refl _, by omega, rfl, ?_⟩
        have h := HLD.out
        refine ⟨h.below.alloc h.below.size _, (planBox h.box).alloc _, (h.rr.alloc _).congr (fun j hj => by rw [if_neg (by omega)]), (h.rl.alloc _).congr (fun j hj => by rw [if_neg (by omega)]), ((MapIs.made wc).congr (fun j => by omega)).mono (Nat.zero_le _)⟩
      case round =>
        obtain ⟨k, j, hk, hjk, rfl, hP⟩ := hrel
        have hM2 : w2.heap.size ≤ wc.heap.size := HLD.out.below.size
        rcases Nat.eq_zero_or_pos k with hk0 | hk0
        · subst hk0
          obtain rfl : j = -1 := by omega
          have hx0 := hP.x0
          have hx1 := hP.x1
          have hbR : wr.heap[w.heap.size]? = some (.cells #[.slice none 0 0, .slice none 0 0] 33 (0, 0)) := (hP.below.block _ (heap_ltP HBK.out)).trans HBK.out
          have hf0 := frozen_of_row wr w.heap.size 0 _ _ hbR
          have hf1 := frozen_of_row wr w.heap.size 1 _ _ hbR
          have hg0 : wr.cell? ⟨w.heap.size, 0, none⟩ = some (.slice none 0 0) := by rw [cell_of_row wr _ 0 _ _ _ hbR]; rfl
          have hg1 : wr.cell? ⟨w.heap.size, 1, none⟩ = some (.slice none 0 0) := by rw [cell_of_row wr _ 1 _ _ _ hbR]; rfl
          have HPL := hide hP
          have HBR := hide hbR
          clear hP hbR
          go_wp2_with fail
          have hbk2 : ((wr.setCell ⟨w.heap.size, 0, none⟩ (.slice (some ⟨gR, 0, none⟩) l.length l.length)).setCell ⟨w.heap.size, 1, none⟩ (.slice (some ⟨gL, 0, none⟩) l.length l.length)).rowIs w.heap.size 33 2 (fun j => if j = 0 then .slice (some ⟨gR, 0, none⟩) l.length l.length else .slice (some ⟨gL, 0, none⟩) l.length l.length) := by
            have h0 : wr.rowIs w.heap.size 33 2 (fun _ => .slice none 0 0) := ⟨_, HBR.out, rfl, fun i hi => by rcases (by omega : i = 0 ∨ i = 1) with rfl | rfl <;> rfl⟩
            exact ((h0.set 0 _).set 1 _).congr (fun i hi => by rcases (by omega : i = 0 ∨ i = 1) with rfl | rfl <;> rfl)
          have f0 := hbk2.cell (i := 0) (by omega)
          have f1 := hbk2.cell (i := 1) (by omega)
          rw [if_pos rfl] at f0
          rw [if_neg (by omega)] at f1
          have hRw : w.heap.size < w2.heap.size := heap_ltP HBK.out
          have h := HLD.out
          have hb3 : Below w.heap.size w wr := next hb2 HPL.out.below
          have o1 : OwnInts ((wr.setCell ⟨w.heap.size, 0, none⟩ (.slice (some ⟨gR, 0, none⟩) l.length l.length)).setCell ⟨w.heap.size, 1, none⟩ (.slice (some ⟨gL, 0, none⟩) l.length l.length)) gR rs := by
            unfold OwnInts
            rw [HRL.out]
            exact ((HPL.out.rr.setOther (by have := h.b1; show gR ≠ w.heap.size; omega) _).setOther (by have := h.b1; show gR ≠ w.heap.size; omega) _).congr (fun j hj => by rw [if_pos (Nat.zero_le _)])
          have o2 : OwnInts ((wr.setCell ⟨w.heap.size, 0, none⟩ (.slice (some ⟨gR, 0, none⟩) l.length l.length)).setCell ⟨w.heap.size, 1, none⟩ (.slice (some ⟨gL, 0, none⟩) l.length l.length)) gL (tab l.length (leftAt l want stock rs)) := by
            unfold OwnInts
            rw [tab_len]
            exact ((HPL.out.rl.setOther (by have := h.b2; show gL ≠ w.heap.size; omega) _).setOther (by have := h.b2; show gL ≠ w.heap.size; omega) _).congr (fun j hj => by rw [if_pos (Nat.zero_le _), tab_getDp hj])
          have s1 := o1.sl (lo := w.heap.size) (by have := h.b1; omega) (by rw [HRL.out]; exact hl)
          have s2 := o2.sl (lo := w.heap.size) (by have := h.b2; omega) (by rw [tab_len]; exact hl)
          rw [HRL.out] at s1
          rw [tab_len] at s2
          refine bodyPost_ret (v := .tuple #[.agg #[.slice (some ⟨gR, 0, none⟩) l.length l.length, .slice (some ⟨gL, 0, none⟩) l.length l.length], .bool true]) (by simp [results, Tryd.results8, go_sem, f0, f1]) rfl ⟨_, _, by rw [HI.out], ?_, ?_, .inr (fun e => h.a1 (by injection e)), by go_grown⟩
          · unfold planRunsL; rw [HI.out, if_pos rfl, HRS.out]; exact s1
          · unfold planLeftL; rw [HI.out, if_pos rfl, HLF.out]; exact s2
        · obtain ⟨k, rfl⟩ : ∃ k', k = k' + 1 := ⟨k - 1, by omega⟩
          have hlt : k < l.length := by omega
          obtain rfl : j = (k : Int) := by omega
          obtain ⟨bl, offl, Al, cl, rfl, hbl, hi1, hi2, hi3, hpa⟩ := (hA.below hb2) k l[k] (List.getElem?_eq_getElem hlt)
          obtain ⟨b2, off2, rfl, hbl2, hs1⟩ := (hY.below hb2) k (stock[k]'(by omega)) (List.getElem?_eq_getElem (by omega))
          obtain ⟨b3, off3, rfl, hbl3, hw1⟩ := (hX.below hb2) k (want[k]'(by omega)) (List.getElem?_eq_getElem (by omega))
          have hit := itemsOk_at HI1.out (List.getElem?_eq_getElem hlt)
          have hwr := rangeOk_at HI3.out (List.getElem?_eq_getElem (show k < want.length by omega))
          have hsr := rangeOk_at HI5.out (List.getElem?_eq_getElem (show k < stock.length by omega))
          have hrr := getD_rng HQ2.out (by omega) k
          have HX1 : Hid (l.getD k nil0 = l[k]) := hide (by simp [hlt])
          have HX2 : Hid (stock.getD k 0 = stock[k]'(by omega)) := hide (by simp [show k < stock.length by omega])
          have HX3 : Hid (want.getD k 0 = want[k]'(by omega)) := hide (by simp [show k < want.length by omega])
          generalize l[k] = x at *
          generalize (stock[k]'(by omega)) = s at *
          generalize (want[k]'(by omega)) = q at *
          obtain ⟨r, HX4⟩ : ∃ r, Hid (rs.getD k 0 = r) := ⟨_, hide rfl⟩
          rw [HX4.out] at hrr
          obtain ⟨u, HU⟩ : ∃ u, Hid (upS l rs k l.length = u) := ⟨_, hide rfl⟩
          have hu := upS_range (itemsOk_many HI1.out) (fun i r h => rangeOk_at HQ2.out h) k l.length
          rw [HU.out] at hu
          have hu0 : 0 ≤ u := hu.1
          have hu1 : u ≤ 1079999892 := by omega
          have HUS : Hid (upS l rs k (k + 1) = 0) := hide (upS_same (itemsOk_less HI1.out) _ (Nat.le_refl _))
          obtain ⟨L, HL⟩ : ∃ L, Hid (q + u - s = L) := ⟨_, hide rfl⟩
          have HRI : Hid (runsI x.yield L = r) := hide (by have := HFX.out k hlt; unfold lackAt at this; rw [HX1.out, HX2.out, HX3.out, HX4.out, HU.out, HL.out] at this; exact this.symm)
          obtain ⟨M, HM⟩ : ∃ M, Hid (madeI x.yield r = M) := ⟨_, hide rfl⟩
          have hmr := madeI_range hit.2.2.1 hit.2.2.2.1 hrr.1 hrr.2
          rw [HM.out] at hmr
          have HLE : Hid (leftAt l want stock rs k = M - L) := hide (by unfold leftAt; rw [HX1.out, HX2.out, HX3.out, HX4.out, HU.out, HM.out, ← HL.out]; omega)
          have HPA : Hid (∀ w', Below wc.heap.size wc w' → PartsAt w' Al x.parts) := hide (fun w' h => (hpa.below HLD.out.below).below h)
          have hy0 : 0 ≤ x.yield := hit.2.2.1
          have hy1 : x.yield ≤ 6 := hit.2.2.2.1
          have HIT := hide hit
          have hm0 : 0 ≤ M := hmr.1
          have hm1 : M ≤ 59999994 := hmr.2
          have hs0 : 0 ≤ s := hsr.1
          have hs2 : s ≤ 50 := hsr.2
          have hq0 : 0 ≤ q := hwr.1
          have hq1 : q ≤ 50 := hwr.2
          have hr0 : 0 ≤ r := hrr.1
          have hr2 : r ≤ 9999999 := hrr.2
          have hL0 : -50 ≤ L := by rw [← HL.out]; omega
          have hL1 : L ≤ 1079999942 := by rw [← HL.out]; omega
          have hz : (0 : Int) ≤ k := by omega
          have hz2 : (k : Int) < l.length := by omega
          have hz3 : (k : Int) < stock.length := by omega
          have hz4 : (k : Int) < want.length := by omega
          have HS8 : Hid (∀ W kR kL, PL l want stock rs wc.heap.size X gR gL kR kL (k + 1) w2 W → W.cell? ⟨b3, off3 + k, none⟩ = some (.int .i64 q) ∧ W.cell? ⟨b2, off2 + k, none⟩ = some (.int .i64 s) ∧ (Instr.lookup 56 (.map (some wc.heap.size)) (.int .i64 (k : Int)) false).run Tryd.prog W = .ok (.int .i64 u) W) := hide (fun W _ _ h => ⟨(h.below.cell hbl3).trans hw1, (h.below.cell hbl2).trans hs1, by rw [h.mp.look k (by omega)]; show Result.ok (Value.int .i64 (upS l rs k l.length - upS l rs k (k + 1))) W = _; rw [HU.out, HUS.out, Int.sub_zero]⟩)
          have HS9 : Hid (∀ W kR kL kM, PL l want stock rs wc.heap.size X gR gL kR kL kM w2 W → W.cell? ⟨X, 0, none⟩ = some (.slice (some ⟨gR, 0, none⟩) l.length l.length) ∧ W.cell? ⟨bl, offl + k * 3, none⟩ = some (.int .i64 x.yield) ∧ W.cell? ⟨bl, offl + k * 3 + 1, none⟩ = some (.slice Al x.parts.length cl) ∧ W.cell? ⟨bl, offl + k * 3 + 2, none⟩ = some (.int .i64 x.marks) ∧ W.cell? ⟨gR, k, none⟩ = some (cv W ⟨gR, k, none⟩) ∧ W.frozen? ⟨gR, k, none⟩ = false) := hide (fun W _ _ _ h => ⟨h.x0, (h.below.cell hbl).trans hi1, (h.below.cell hbl).trans hi2, (h.below.cell hbl).trans hi3, cv_of (h.rr.cell hlt), h.rr.frozen k⟩)
          have HS9b : Hid (∀ W kR kL kM, PL l want stock rs wc.heap.size X gR gL kR kL kM w2 W → W.cell? ⟨X, 0, none⟩ = some (.slice (some ⟨gR, 0, none⟩) l.length l.length) ∧ W.cell? ⟨bl, offl + k * 3, none⟩ = some (.int .i64 x.yield) ∧ W.cell? ⟨bl, offl + k * 3 + 1, none⟩ = some (.slice Al x.parts.length cl) ∧ W.cell? ⟨bl, offl + k * 3 + 2, none⟩ = some (.int .i64 x.marks)) := hide (fun W _ _ _ h => ⟨h.x0, (h.below.cell hbl).trans hi1, (h.below.cell hbl).trans hi2, (h.below.cell hbl).trans hi3⟩)
          have HS10 : Hid (∀ W kL kM, PL l want stock rs wc.heap.size X gR gL k kL kM w2 W → W.cell? ⟨X, 1, none⟩ = some (.slice (some ⟨gL, 0, none⟩) l.length l.length) ∧ W.cell? ⟨gR, k, none⟩ = some (.int .i64 r) ∧ W.cell? ⟨gL, k, none⟩ = some (cv W ⟨gL, k, none⟩) ∧ W.frozen? ⟨gL, k, none⟩ = false) := hide (fun W _ _ h => ⟨h.x1, h.atR (Nat.le_refl _) hlt HX4.out, cv_of (h.rl.cell hlt), h.rl.frozen k⟩)
          have HSR : Hid (∀ W, PL l want stock rs wc.heap.size X gR gL (k + 1) (k + 1) (k + 1) w2 W → PL l want stock rs wc.heap.size X gR gL k (k + 1) (k + 1) w2 (W.setCell ⟨gR, k, none⟩ (.int .i64 r))) := hide (fun W h => by
            have := h.setR HLD.out.b1 HLD.out.a1 HLD.out.a2 (by have := HLD.out.c1; omega)
            rwa [HX4.out] at this)
          have HSL : Hid (∀ W, PL l want stock rs wc.heap.size X gR gL k (k + 1) (k + 1) w2 W → PL l want stock rs wc.heap.size X gR gL k k (k + 1) w2 (W.setCell ⟨gL, k, none⟩ (.int .i64 (M - L)))) := hide (fun W h =>
            h.setL HLD.out.b2 (Ne.symm HLD.out.a1) HLD.out.a3 (by have := HLD.out.c2; omega) HLE.out)
          have HADD : Hid (∀ W, PL l want stock rs wc.heap.size X gR gL k k (k + 1) w2 W → 
              Calls Tryd.prog 25 #[.map (some wc.heap.size), .agg #[.int .i64 x.yield, .slice Al x.parts.length cl, .int .i64 x.marks], .int .i64 r] W fun e w' => e = .returned (.tuple #[]) ∧ PL l want stock rs wc.heap.size X gR gL k k k w2 w') := hide (fun W h =>
            (addNeed_any _ _ _ _ _ _ wc.heap.size (3 * (l.length - (k + 1))) _ _ (fun w' h' => hpa.below (h.below.trans (h'.mono hM2))) HIT.out.2.2.2.2.1 (by omega) (fun p hp => by have := HIT.out.2.2.2.2.2.2 p hp; omega) hr0 (by omega)
              (fun j => by
                have a := upS_range (itemsOk_many HI1.out) (fun i r h => rangeOk_at HQ2.out h) j l.length
                have b := upS_range (itemsOk_many HI1.out) (fun i r h => rangeOk_at HQ2.out h) j (k + 1)
                have c := upS_mono (itemsOk_many HI1.out) (fun i r h => rangeOk_at HQ2.out h) j (k + 1) l.length hlt
                omega) h.mp).mono (by
                  rintro e w' ⟨rfl, hM, hB⟩
                  exact ⟨rfl, h.need hB hM hM2 HLD.out.c1 HLD.out.c2 HLD.out.c3 (by have := HIT.out.2.2.2.2.1; omega) (fun j => by rw [upS_succ l rs j k, HX1.out, HX4.out]; omega)⟩))
          have hPd := hP.drew
          have HPd := hide hPd
          have HX4b := HX4
          clear hit hwr hsr hrr hu hmr hpa hs1 hi1 hi2 hi3 hw1 hbl hbl2 hbl3 hP hPd
          have hw1 : IntKind.i64.wrap (q + u) = q + u := IntWalk.i64_in _ (by omega)
          have hw2 : IntKind.i64.wrap (q + u - s) = L := by rw [HL.out]; exact IntWalk.i64_in _ (by omega)
          go_wp2_with fail
          go_region_held3 (fun W => W.cell? ⟨b3, off3 + k, none⟩ = some (.int .i64 q) ∧ W.cell? ⟨b2, off2 + k, none⟩ = some (.int .i64 s) ∧ (Instr.lookup 56 (.map (some wc.heap.size)) (.int .i64 (k : Int)) false).run Tryd.prog W = .ok (.int .i64 u) W)
            (first | exact HS8.out _ _ _ HPd.out)
            (first | fail)
          all_goals
            have HP9 := hide HPd.out.drew
            clear hw1 hw2
            go_wp2_with fail
            go_region_held3 (fun W => W.cell? ⟨X, 0, none⟩ = some (.slice (some ⟨gR, 0, none⟩) l.length l.length) ∧ W.cell? ⟨bl, offl + k * 3, none⟩ = some (.int .i64 x.yield) ∧ W.cell? ⟨bl, offl + k * 3 + 1, none⟩ = some (.slice Al x.parts.length cl) ∧ W.cell? ⟨bl, offl + k * 3 + 2, none⟩ = some (.int .i64 x.marks) ∧ W.cell? ⟨gR, k, none⟩ = some (cv W ⟨gR, k, none⟩) ∧ W.frozen? ⟨gR, k, none⟩ = false)
              (first | exact HS9.out _ _ _ _ HP9.out | exact HS9.out _ _ _ _ (HP9.out.next hB) | exact HS9.out _ _ _ _ (HSR.out _ (HP9.out.next hB)))
              (first | (go_at_call 23; refine (runsFor_any _ _ _ _ _ _ _ hy0 hy1 (by omega) (by omega)).mono ?_; rintro e W' ⟨rfl, hB⟩; rw [HRI.out]))
            all_goals
              have HP10 := hide (HSR.out _ (HP9.out.next hB)).drew
              clear hB
              go_wp2_with fail
              have hw3 : IntKind.i64.wrap (M - L) = M - L := IntWalk.i64_in _ (by omega)
              go_region_held3 (fun W => (W.cell? ⟨X, 0, none⟩ = some (.slice (some ⟨gR, 0, none⟩) l.length l.length) ∧ W.cell? ⟨bl, offl + k * 3, none⟩ = some (.int .i64 x.yield) ∧ W.cell? ⟨bl, offl + k * 3 + 1, none⟩ = some (.slice Al x.parts.length cl) ∧ W.cell? ⟨bl, offl + k * 3 + 2, none⟩ = some (.int .i64 x.marks)) ∧ W.cell? ⟨X, 1, none⟩ = some (.slice (some ⟨gL, 0, none⟩) l.length l.length) ∧ W.cell? ⟨gR, k, none⟩ = some (.int .i64 r) ∧ W.cell? ⟨gL, k, none⟩ = some (cv W ⟨gL, k, none⟩) ∧ W.frozen? ⟨gL, k, none⟩ = false)
                (first | exact ⟨HS9b.out _ _ _ _ HP10.out, HS10.out _ _ _ HP10.out⟩ | exact ⟨HS9b.out _ _ _ _ (HP10.out.next hB3), HS10.out _ _ _ (HP10.out.next hB3)⟩ | exact ⟨HS9b.out _ _ _ _ (HSL.out _ (HP10.out.next hB3)), HS10.out _ _ _ (HSL.out _ (HP10.out.next hB3))⟩)
                (first | (go_at_call 24; refine (madeBy_any _ _ _ _ _ _ _ hy0 hy1 hr0 (by omega)).mono ?_; rintro e W3 ⟨rfl, hB3⟩; rw [HM.out]))
              all_goals
                have HP11 := hide (HSL.out _ (HP10.out.next hB3)).drew
                clear hB3 hw3
                go_wp2_with fail
                go_region_held3 (fun W => (W.cell? ⟨X, 0, none⟩ = some (.slice (some ⟨gR, 0, none⟩) l.length l.length) ∧ W.cell? ⟨bl, offl + k * 3, none⟩ = some (.int .i64 x.yield) ∧ W.cell? ⟨bl, offl + k * 3 + 1, none⟩ = some (.slice Al x.parts.length cl) ∧ W.cell? ⟨bl, offl + k * 3 + 2, none⟩ = some (.int .i64 x.marks)) ∧ W.cell? ⟨X, 1, none⟩ = some (.slice (some ⟨gL, 0, none⟩) l.length l.length) ∧ W.cell? ⟨gR, k, none⟩ = some (.int .i64 r) ∧ W.cell? ⟨gL, k, none⟩ = some (cv W ⟨gL, k, none⟩) ∧ W.frozen? ⟨gL, k, none⟩ = false)
                  (first | exact ⟨HS9b.out _ _ _ _ HP11.out, HS10.out _ _ _ HP11.out⟩ | exact ⟨HS9b.out _ _ _ _ hP12, HS10.out _ _ _ hP12⟩)
                  (first | (go_at_call 25; refine (HADD.out _ HP11.out).mono ?_; rintro e W4 ⟨rfl, hP12⟩))
                all_goals
                  have HP12 := hide hP12
                  clear hP12
                  go_wp2_with fail
                  go_roundw
                  case rel => exact ⟨k, (k : Int) - 1, by omega, by omega, by go_num, HP12.out⟩
                  case measure => simp [intOf]
end Go.Proofs.YtjegebnnlomcpaaDoor
