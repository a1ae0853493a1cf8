/- Contracts of the helpers of the exact laws that read, copy and compare parts and items.
   Conditions: none but the bounds in each statement. -/
import Derived.Test.YtmepnilnlpoodaaDoorProg
import Derived.WalkKit
import Derived.BigQuiet
import Derived.Deep.QuietTactic
import Derived.Outline
import Derived.Handy
import Derived.Deep.RegionHeld3
import Derived.Deep.OwnRows
namespace Go.Proofs.YtmepnilnlpoodaaDoor
open Go.RowKit

theorem hide {p : Prop} (h : p) : Hid p := h

structure Part where
  of : Int
  many : Int

structure Item where
  yield : Int
  parts : List Part
  marks : Int

def PartsAt (w : World) (A : Option Addr) (ps : List Part) : Prop :=
  ∀ i p, ps[i]? = some p → ∃ b off, A = some ⟨b, off, none⟩ ∧ b < w.heap.size ∧ w.cell? ⟨b, off + i * 2, none⟩ = some (.int .i64 p.of) ∧ w.cell? ⟨b, off + i * 2 + 1, none⟩ = some (.int .i64 p.many)

theorem PartsAt.below {w w' : World} {A : Option Addr} {ps : List Part} (h : PartsAt w A ps) (hb : Below w.heap.size w w') : PartsAt w' A ps := by
  intro i p hp
  obtain ⟨b, off, e, hlt, h1, h2⟩ := h i p hp
  exact ⟨b, off, e, Nat.lt_of_lt_of_le hlt hb.size, (hb.cell hlt).trans h1, (hb.cell hlt).trans h2⟩


def partCell (ps : List Part) (j : Nat) : Value :=
  match ps[j / 2]? with
  | some p => if j % 2 = 0 then .int .i64 p.of else .int .i64 p.many
  | none => .int .i64 0

theorem partCell_even {ps : List Part} {i : Nat} {p : Part} (h : ps[i]? = some p) : partCell ps (i * 2) = .int .i64 p.of := by
  unfold partCell; rw [show i * 2 / 2 = i from by omega, h]; simp
theorem partCell_odd {ps : List Part} {i : Nat} {p : Part} (h : ps[i]? = some p) : partCell ps (i * 2 + 1) = .int .i64 p.many := by
  unfold partCell; rw [show (i * 2 + 1) / 2 = i from by omega, h]; simp

/-- Block g is the call's own row of the parts. -/
def OwnParts (w : World) (g : Nat) (ps : List Part) : Prop := w.rowIs g 130 (ps.length * 2) (partCell ps)

theorem OwnParts.at_ {w : World} {g : Nat} {ps : List Part} (h : OwnParts w g ps) : PartsAt w (some ⟨g, 0, none⟩) ps := by
  intro i p hp
  have hi : i < ps.length := (List.getElem?_eq_some_iff.1 hp).1
  refine ⟨g, 0, rfl, h.lt, ?_, ?_⟩
  · rw [← partCell_even hp, Nat.zero_add]; exact h.cell (by omega)
  · rw [← partCell_odd hp, Nat.zero_add]; exact h.cell (by omega)

theorem next {w wr W' : World} (h : Below w.heap.size w wr) (k : Below wr.heap.size wr W') : Below w.heap.size w W' := h.trans (k.mono h.size)

set_option maxHeartbeats 400000 in
theorem toPart_any (a b : Int) (w : World) :
    Calls Tryd.prog 115 #[.agg #[.int .i64 a, .int .i64 b]] w fun e w' => e = .returned (.agg #[.int .i64 a, .int .i64 b]) ∧ Below w.heap.size w w' := by
  go_enter Tryd.func115, Tryd.ntmps115
  go_wp2_with fail
  exact bodyPost_ret (v := .agg #[.int .i64 a, .int .i64 b]) (by simp [results, Tryd.results115, go_sem]) rfl ⟨rfl, by go_grown⟩

theorem info73 : (Tryd.prog.info? 130).map (fun i => (i.zero, i.size, i.bytes)) = some (some (.agg #[.int .i64 0, .int .i64 0]), 2, 16) := by kernel_rfl

theorem made2 (n : Nat) (i : Nat) (hi : i < n * 2) : (madeCells #[.int .i64 0, .int .i64 0] (n * 2))[i]? = some (.int .i64 0) := by
  have : i % 2 = 0 ∨ i % 2 = 1 := by omega
  rcases this with h | h <;> simp [madeCells, hi, h]

theorem make_parts (n : Nat) (hn : n ≤ 1048576) (w : World) :
    (Instr.makeSlice 122 (.int .i64 (n : Int)) (.int .i64 (n : Int))).run Tryd.prog w = .ok (.slice (some ⟨w.heap.size, 0, none⟩) n n) (w.alloc (.cells (madeCells #[.int .i64 0, .int .i64 0] (n * 2)) 130)) := by
  obtain ⟨i0, hi, hz0, hz1, hz2⟩ := info_parts info73
  have := run_make (P := Tryd.prog) w 122 130 i0 _ Tryd.underlying122 hi hz0 .i64 .i64 n n (by omega) (by omega) (by rw [hz2]; omega) (by omega)
  simpa [hz1, Value.cells] using this

set_option maxHeartbeats 400000 in
theorem toPartS_any (A : Option Addr) (c : Nat) (ps : List Part) (w : World) (h1 : PartsAt w A ps) (hl : ps.length ≤ 1048576) :
    Calls Tryd.prog 95 #[.slice A ps.length c] w fun e w' => e = .returned (.slice (some ⟨w.heap.size, 0, none⟩) ps.length ps.length) ∧ OwnParts w' w.heap.size ps ∧ Below w.heap.size w w' := by
  have hmk := make_parts ps.length hl
  go_enter Tryd.func95, Tryd.ntmps95
  go_wp2_with fail
  clear hmk
  go_loopw [4] (fun i wr => ∃ k : Nat, k ≤ ps.length ∧ i = .int .i64 k ∧ wr.rowIs w.heap.size 130 (ps.length * 2) (fun j => if j < k * 2 then partCell ps j else .int .i64 0) ∧ Below w.heap.size w wr) (fun i _ => ps.length - (intOf i).toNat)
  case atStart => exact ⟨0, Nat.zero_le _, rfl, ⟨_, Deep.blk_alloc_new _ _, size_madeCells _ _, fun i hi => by rw [made2 _ _ hi]; simp⟩, by go_grown⟩
  case round =>
    obtain ⟨k, hk, rfl, hrow, hb⟩ := hrel
    have hsz := hb.size
    by_cases hlt : k < ps.length
    · obtain ⟨b, off, rfl, hbl, hc1, hc2⟩ := (h1.below hb) k ps[k] (List.getElem?_eq_getElem hlt)
      have HP : Hid (ps[k]? = some ps[k]) := hide (List.getElem?_eq_getElem hlt)
      generalize ps[k] = p at *
      have hz : (0 : Int) ≤ k := by omega
      have hz2 : (k : Int) < ps.length := by omega
      go_wp2_with fail
      refine (toPart_any _ _ _).mono ?_
      rintro e w' ⟨rfl, hB⟩
      have hrow2 := hrow.of_block (hB.block _ hrow.lt)
      have hq1 := hrow2.cell (i := k * 2) (by omega)
      have hq2 := hrow2.cell (i := k * 2 + 1) (by omega)
      have hf := hrow2.frozen
      have hb2 : Below w.heap.size w w' := next hb hB
      have hsz2 := hb2.size
      go_wp2_with fail
      go_roundw
      case rel =>
        refine ⟨k + 1, hlt, by go_num, ((hrow2.set (k * 2) _).set (k * 2 + 1) _).congr (fun j hj => ?_), by go_grown⟩
        rcases Nat.lt_trichotomy j (k * 2) with h | h | h
        · rw [if_neg (by omega), if_neg (by omega), if_pos h, if_pos (by omega)]
        · subst h
          rw [if_neg (by omega), if_pos rfl, if_pos (by omega), partCell_even HP.out]
        · by_cases h' : j = k * 2 + 1
          · subst h'
            rw [if_pos rfl, if_pos (by omega), partCell_odd HP.out]
          · rw [if_neg h', if_neg (by omega), if_neg (by omega), if_neg (by omega)]
      case measure => simp [intOf]; omega
    · go_wp2_with fail
      go_ret
      exact ⟨rfl, hrow.congr (fun i hi => if_pos (by omega)), by go_grown⟩
set_option maxHeartbeats 400000 in
theorem eqPart_same (p : Part) (w : World) :
    Calls Tryd.prog 123 #[.agg #[.int .i64 p.of, .int .i64 p.many], .agg #[.int .i64 p.of, .int .i64 p.many]] w fun e w' => e = .returned (.bool true) ∧ Below w.heap.size w w' := by
  generalize p.of = a
  generalize p.many = b
  have ha : (a != a) = false := by simp
  have hb : (b != b) = false := by simp
  go_enter Tryd.func123, Tryd.ntmps123
  go_wp2_with fail
  go_ret
  exact ⟨rfl, by go_grown⟩

set_option maxHeartbeats 400000 in
theorem eqPartS_same (A A' : Option Addr) (c c' : Nat) (ps : List Part) (w : World) (h1 : PartsAt w A ps) (h2 : PartsAt w A' ps) (hl : ps.length ≤ 1048576) :
    Calls Tryd.prog 102 #[.slice A ps.length c, .slice A' ps.length c'] w fun e w' => e = .returned (.bool true) ∧ Below w.heap.size w w' := by
  have he : ((ps.length : Int) != ps.length) = false := by simp
  go_enter Tryd.func102, Tryd.ntmps102
  go_wp2_with fail
  go_loopw [5] (fun i wr => ∃ k : Nat, k ≤ ps.length ∧ i = .int .i64 k ∧ Below w.heap.size w wr) (fun i _ => ps.length - (intOf i).toNat)
  case atStart => exact ⟨0, Nat.zero_le _, rfl, Below.refl _ _⟩
  case round =>
    obtain ⟨k, hk, rfl, hb⟩ := hrel
    have hsz := hb.size
    by_cases hlt : k < ps.length
    · obtain ⟨b, off, rfl, hbl, hc1, hc2⟩ := h1 k ps[k] (List.getElem?_eq_getElem hlt)
      obtain ⟨b', off', rfl, hbl', hc1', hc2'⟩ := h2 k ps[k] (List.getElem?_eq_getElem hlt)
      rw [← hb.cell hbl] at hc1 hc2
      rw [← hb.cell hbl'] at hc1' hc2'
      generalize ps[k] = p at *
      have hz : (0 : Int) ≤ k := by omega
      have hz2 : (k : Int) < ps.length := by omega
      go_wp2_with fail
      go_region_held3 (fun W => W.cell? ⟨b, off + k * 2, none⟩ = some (.int .i64 p.of) ∧ W.cell? ⟨b, off + k * 2 + 1, none⟩ = some (.int .i64 p.many) ∧ W.cell? ⟨b', off' + k * 2, none⟩ = some (.int .i64 p.of) ∧ W.cell? ⟨b', off' + k * 2 + 1, none⟩ = some (.int .i64 p.many) ∧ Below w.heap.size w W)
        (first | exact ⟨hc1, hc2, hc1', hc2', hb.drew⟩ | exact ⟨(hB.cell (Nat.lt_of_lt_of_le hbl hsz)).trans hc1, (hB.cell (Nat.lt_of_lt_of_le hbl hsz)).trans hc2, (hB.cell (Nat.lt_of_lt_of_le hbl' hsz)).trans hc1', (hB.cell (Nat.lt_of_lt_of_le hbl' hsz)).trans hc2', hb.drew.trans (hB.mono hsz)⟩)
        (first | (go_at_call 123; refine (eqPart_same _ _).mono ?_; rintro e W' ⟨rfl, hB⟩))
      have hb2 : Below w.heap.size w W' := hb.drew.trans (hB.mono hsz)
      have hsz2 := hb2.size
      go_wp2_with fail
      go_roundw
      case rel => exact ⟨k + 1, hlt, by go_num, by go_grown⟩
      case measure => simp [intOf]; omega
    · go_wp2_with fail
      go_ret
      exact ⟨rfl, by go_grown⟩

def ItemsAt (w : World) (A : Option Addr) (l : List Item) : Prop :=
  ∀ i x, l[i]? = some x → ∃ b off A' c, A = some ⟨b, off, none⟩ ∧ b < w.heap.size ∧ w.cell? ⟨b, off + i * 3, none⟩ = some (.int .i64 x.yield) ∧
    w.cell? ⟨b, off + i * 3 + 1, none⟩ = some (.slice A' x.parts.length c) ∧ w.cell? ⟨b, off + i * 3 + 2, none⟩ = some (.int .i64 x.marks) ∧ PartsAt w A' x.parts

theorem ItemsAt.below {w w' : World} {A : Option Addr} {l : List Item} (h : ItemsAt w A l) (hb : Below w.heap.size w w') : ItemsAt w' A l := by
  intro i x hx
  obtain ⟨b, off, A', c, e, hlt, h1, h2, h3, h4⟩ := h i x hx
  exact ⟨b, off, A', c, e, Nat.lt_of_lt_of_le hlt hb.size, (hb.cell hlt).trans h1, (hb.cell hlt).trans h2, (hb.cell hlt).trans h3, h4.below hb⟩

def szP (left : Int) (n : Nat) : Int := if left - n < 0 then -1 else left - n

def szGo : Int → List Item → Int
  | left, [] => left
  | left, x :: r => if left - x.parts.length < 0 then -1 else szGo (left - x.parts.length) r

def szL (left : Int) (l : List Item) : Int := if left - l.length < 0 then -1 else szGo (left - l.length) l

set_option maxHeartbeats 400000 in
theorem szPartS_any (A : Option Addr) (c n : Nat) (left : Int) (w : World) (h0 : 0 ≤ left) (h1 : left ≤ 1048576) (hl : n ≤ 9223372036854775807) :
    Calls Tryd.prog 89 #[.slice A n c, .int .i64 left] w fun e w' => e = .returned (.int .i64 (szP left n)) ∧ w = w' := by
  unfold szP
  by_cases h : left - n < 0
  · rw [if_pos h]
    go_enter Tryd.func89, Tryd.ntmps89
    go_wp2_with fail
    go_ret
    exact ⟨rfl, rfl⟩
  · rw [if_neg h]
    go_enter Tryd.func89, Tryd.ntmps89
    go_wp2_with fail
    go_ret
    exact ⟨rfl, rfl⟩

theorem szP_range (left : Int) (n : Nat) (h1 : left ≤ 1048576) : -1 ≤ szP left n ∧ szP left n ≤ 1048576 := by unfold szP; split <;> omega

set_option maxHeartbeats 400000 in
theorem szItem_any (A : Option Addr) (c n : Nat) (y m left : Int) (w : World) (h0 : 0 ≤ left) (h1 : left ≤ 1048576) (hl : n ≤ 9223372036854775807) :
    Calls Tryd.prog 62 #[.agg #[.int .i64 y, .slice A n c, .int .i64 m], .int .i64 left] w fun e w' => e = .returned (.int .i64 (szP left n)) ∧ Below w.heap.size w w' := by
  by_cases h : szP left n < 0
  · have h' : Hid (szP left n = -1) := by unfold szP at h ⊢; apply hide; split <;> simp_all
    go_enter Tryd.func62, Tryd.ntmps62
    go_wp2_with fail
    refine (szPartS_any _ _ _ _ _ h0 h1 hl).mono ?_
    rintro e w' ⟨rfl, rfl⟩
    go_wp2_with fail
    go_ret
    exact ⟨by rw [h'.out]; rfl, by go_grown⟩
  · go_enter Tryd.func62, Tryd.ntmps62
    go_wp2_with fail
    refine (szPartS_any _ _ _ _ _ h0 h1 hl).mono ?_
    rintro e w' ⟨rfl, rfl⟩
    go_wp2_with fail
    go_ret
    exact ⟨rfl, by go_grown⟩

set_option maxHeartbeats 400000 in
theorem szItemS_any (A : Option Addr) (c : Nat) (l : List Item) (w : World) (hA : ItemsAt w A l) (hl : l.length ≤ 9223372036854775807) (hp : ∀ x ∈ l, x.parts.length ≤ 9223372036854775807) :
    Calls Tryd.prog 29 #[.slice A l.length c, .int .i64 1048576] w fun e w' => e = .returned (.int .i64 (szL 1048576 l)) ∧ Below w.heap.size w w' := by
  by_cases h : (1048576 : Int) - l.length < 0
  · have HR : Hid (szL 1048576 l = -1) := by unfold szL; rw [if_pos h]; exact hide rfl
    clear hp
    go_enter Tryd.func29, Tryd.ntmps29
    go_wp2_with fail
    go_ret
    exact ⟨by rw [HR.out]; rfl, by go_grown⟩
  · have HR : Hid (szL 1048576 l = szGo (1048576 - l.length) l) := by unfold szL; rw [if_neg h]; exact hide rfl
    have HP := hide hp
    clear hp
    go_enter Tryd.func29, Tryd.ntmps29
    go_wp2_with fail
    go_loopw [1, 5] (fun lf i wr => ∃ (k : Nat) (left : Int), k ≤ l.length ∧ i = .int .i64 k ∧ lf = .int .i64 left ∧ 0 ≤ left ∧ left ≤ 1048576 ∧ Hid (szL 1048576 l = szGo left (l.drop k)) ∧ Below w.heap.size w wr) (fun _ i _ => l.length - (intOf i).toNat)
    case atStart => exact ⟨0, _, Nat.zero_le _, rfl, rfl, by omega, by omega, HR, Below.refl _ _⟩
    case round =>
      obtain ⟨k, left, hk, rfl, rfl, hl0, hl1, HG, hb⟩ := hrel
      have hsz := hb.size
      by_cases hlt : k < l.length
      · obtain ⟨b, off, A', c', rfl, hbl, hc1, hc2, hc3, -⟩ := (hA.below hb) k l[k] (List.getElem?_eq_getElem hlt)
        have HD : Hid (l.drop k = l[k] :: l.drop (k + 1)) := hide (List.drop_eq_getElem_cons hlt)
        have hx : l[k].parts.length ≤ 9223372036854775807 := HP.out _ (List.getElem_mem hlt)
        generalize l[k] = x at *
        have hz : (0 : Int) ≤ k := by omega
        have hz2 : (k : Int) < l.length := by omega
        have hr := szP_range left x.parts.length hl1
        by_cases h2 : left - x.parts.length < 0
        · have H2 : Hid (szP left x.parts.length = -1) := by unfold szP; rw [if_pos h2]; exact hide rfl
          have H3 : Hid (szL 1048576 l = -1) := hide (by rw [HG.out, HD.out, szGo, if_pos h2])
          have h4 : szP left x.parts.length < 0 := by rw [H2.out]; omega
          go_wp2_with fail
          refine (szItem_any _ _ _ _ _ _ _ hl0 hl1 hx).mono ?_
          rintro e w' ⟨rfl, hB⟩
          have hb2 : Below w.heap.size w w' := next hb hB
          go_wp2_with fail
          go_ret
          exact ⟨by rw [H3.out]; rfl, by go_grown⟩
        · have H2 : Hid (szP left x.parts.length = left - x.parts.length) := by unfold szP; rw [if_neg h2]; exact hide rfl
          have H3 : Hid (szL 1048576 l = szGo (szP left x.parts.length) (l.drop (k + 1))) := hide (by rw [H2.out, HG.out, HD.out, szGo, if_neg h2])
          have h4 : ¬ szP left x.parts.length < 0 := by rw [H2.out]; omega
          go_wp2_with fail
          refine (szItem_any _ _ _ _ _ _ _ hl0 hl1 hx).mono ?_
          rintro e w' ⟨rfl, hB⟩
          have hb2 : Below w.heap.size w w' := next hb hB
          go_wp2_with fail
          go_roundw
          case rel => exact ⟨k + 1, _, hlt, by go_num, rfl, by omega, by omega, H3, by go_grown⟩
          case measure => simp [intOf]; omega
      · have H3 : Hid (szL 1048576 l = left) := by rw [HG.out, List.drop_of_length_le (by omega)]; exact hide rfl
        go_wp2_with fail
        go_ret
        exact ⟨by rw [H3.out]; rfl, by go_grown⟩
end Go.Proofs.YtmepnilnlpoodaaDoor
