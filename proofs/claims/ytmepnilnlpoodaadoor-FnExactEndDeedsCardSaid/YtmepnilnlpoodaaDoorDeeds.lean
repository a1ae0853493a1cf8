/- Lists of deeds of a house (four numbers each): reading, slices that a call owns, append; the helpers that compare, mark and ask them.
   Conditions: lists have at most 1048576 elements. -/
import Derived.Test.YtmepnilnlpoodaaDoorLots
namespace Go.Proofs.YtmepnilnlpoodaaDoor
open Go.RowKit Go.ChangeShapes Go.WideShapes Go.ChangeAt Go.Deep

structure HDeed where
  kind : Int
  one : Int
  two : Int
  three : Int

def HDeedsAt (w : World) (A : Option Addr) (ls : List HDeed) : Prop :=
  ∀ i p, ls[i]? = some p → ∃ b off, A = some ⟨b, off, none⟩ ∧ b < w.heap.size ∧ w.cell? ⟨b, off + i * 4, none⟩ = some (.int .i64 p.kind) ∧ w.cell? ⟨b, off + i * 4 + 1, none⟩ = some (.int .i64 p.one) ∧
    w.cell? ⟨b, off + i * 4 + 2, none⟩ = some (.int .i64 p.two) ∧ w.cell? ⟨b, off + i * 4 + 3, none⟩ = some (.int .i64 p.three)

theorem HDeedsAt.below {w w' : World} {A : Option Addr} {ls : List HDeed} (h : HDeedsAt w A ls) (hb : Below w.heap.size w w') : HDeedsAt w' A ls := by
  intro i p hp
  obtain ⟨b, off, e, hlt, h1, h2, h3, h4⟩ := h i p hp
  exact ⟨b, off, e, Nat.lt_of_lt_of_le hlt hb.size, (hb.cell hlt).trans h1, (hb.cell hlt).trans h2, (hb.cell hlt).trans h3, (hb.cell hlt).trans h4⟩

def hdCells (ls : List HDeed) : List Value := ls.flatMap (fun p => [.int .i64 p.kind, .int .i64 p.one, .int .i64 p.two, .int .i64 p.three])
theorem hdCells_cons (q : HDeed) (r : List HDeed) : hdCells (q :: r) = .int .i64 q.kind :: .int .i64 q.one :: .int .i64 q.two :: .int .i64 q.three :: hdCells r := by simp [hdCells]
theorem hdCells_at : ∀ {ls : List HDeed} {i : Nat} {p : HDeed}, ls[i]? = some p → (hdCells ls)[i * 4]? = some (.int .i64 p.kind) ∧ (hdCells ls)[i * 4 + 1]? = some (.int .i64 p.one) ∧ (hdCells ls)[i * 4 + 2]? = some (.int .i64 p.two) ∧ (hdCells ls)[i * 4 + 3]? = some (.int .i64 p.three)
  | [], i, p, h => by simp at h
  | q :: r, 0, p, h => by
    obtain rfl : q = p := by simpa using h
    exact ⟨rfl, rfl, rfl, rfl⟩
  | q :: r, i + 1, p, h => by
    have := hdCells_at (ls := r) (i := i) (p := p) (by simpa using h)
    rw [show (i + 1) * 4 = i * 4 + 1 + 1 + 1 + 1 from by omega, hdCells_cons]
    exact this
theorem hdCells_len (ls : List HDeed) : (hdCells ls).length = ls.length * 4 := by
  induction ls with
  | nil => rfl
  | cons q r ih => rw [hdCells_cons]; simp only [List.length_cons, ih]; omega
theorem hdCells_snoc (ls : List HDeed) (p : HDeed) : hdCells (ls ++ [p]) = hdCells ls ++ [.int .i64 p.kind, .int .i64 p.one, .int .i64 p.two, .int .i64 p.three] := by simp [hdCells]
theorem hdCells_set (a b c d : Int) : ∀ (ls : List HDeed) (i : Nat), i < ls.length → ((((hdCells ls).set (i * 4) (.int .i64 a)).set (i * 4 + 1) (.int .i64 b)).set (i * 4 + 2) (.int .i64 c)).set (i * 4 + 3) (.int .i64 d) = hdCells (ls.set i ⟨a, b, c, d⟩)
  | [], i, h => by simp at h
  | q :: r, 0, _ => by rw [List.set_cons_zero, hdCells_cons, hdCells_cons]; rfl
  | q :: r, i + 1, h => by
    have ih := hdCells_set a b c d r i (by simpa using h)
    rw [List.set_cons_succ, hdCells_cons, hdCells_cons, ← ih, show (i + 1) * 4 = i * 4 + 1 + 1 + 1 + 1 from by omega]
    rfl

/-- The slice value v owns, from block lo on, the deeds. -/
def HDeedSl (w : World) (lo : Nat) (v : Value) (ls : List HDeed) : Prop := w.ownsRow lo 43 4 v ls.length (hdCells ls)

theorem HDeedSl.form {w : World} {lo : Nat} {v : Value} {ls : List HDeed} (h : HDeedSl w lo v ls) : ∃ A c, v = .slice A ls.length c ∧ HDeedsAt w A ls := by
  have hlt := h.lt
  rcases h.2 with ⟨hv, hn⟩ | ⟨g, cap, cur, hv, _⟩
  · have : ls = [] := List.eq_nil_of_length_eq_zero hn
    subst this
    exact ⟨none, 0, hv, fun i x hx => by simp at hx⟩
  · refine ⟨some ⟨g, 0, none⟩, cap, hv, fun i p hp => ?_⟩
    subst hv
    have hi : i < ls.length := (List.getElem?_eq_some_iff.1 hp).1
    have hc := hdCells_at hp
    refine ⟨g, 0, rfl, (hlt g rfl).2, ?_, ?_, ?_, ?_⟩
    · rw [Nat.zero_add, World.ownsRow.cellAt h (i * 4) (by omega)]; exact hc.1
    · rw [Nat.zero_add, World.ownsRow.cellAt h (i * 4 + 1) (by omega)]; exact hc.2.1
    · rw [Nat.zero_add, World.ownsRow.cellAt h (i * 4 + 2) (by omega)]; exact hc.2.2.1
    · rw [Nat.zero_add, World.ownsRow.cellAt h (i * 4 + 3) (by omega)]; exact hc.2.2.2
theorem HDeedSl.deeds {w : World} {lo n c : Nat} {A : Option Addr} {ls : List HDeed} (h : HDeedSl w lo (.slice A n c) ls) : HDeedsAt w A ls := by
  obtain ⟨A', c', e, hI⟩ := h.form
  injection e with e
  rw [e]
  exact hI
theorem HDeedSl.below {w w' : World} {lo : Nat} {v : Value} {ls : List HDeed} (h : HDeedSl w lo v ls) (hb : Below w.heap.size w w') : HDeedSl w' lo v ls := ownsRow_below h hb
theorem HDeedSl.row {w w' : World} {lo : Nat} {v : Value} {ls : List HDeed} {q : Option Nat} (h : HDeedSl w lo v ls) (hg : w.grownBy w' q) (hne : v.ownBlock = none ∨ v.ownBlock ≠ q) : HDeedSl w' lo v ls := World.ownsRow.kept h hg hne

theorem infoHDeed : (Tryd.prog.info? 43).map (fun i => (i.zero, i.size, i.bytes)) = some (some (.agg #[.int .i64 0, .int .i64 0, .int .i64 0, .int .i64 0]), 4, 32) := by kernel_rfl
/-- Append of one deed, in a plain region. -/
theorem wpList_push_hdeed {W : World} {ops : Array Oper} {rest : List Oper} {o : Oper} {a : Act} {Q : Exit → Act → World → Prop} (hgd : o.guard = none) (s x : Operand)
    (ho : o.op = .call { callee := .builtin .append, args := #[s, x], argTypes := #[28, 28] }) (lo : Nat) (v : Value) (ls : List HDeed) (hs : a.eval s = v) (hown : HDeedSl W lo v ls) (g : Nat) (p : HDeed)
    (hx : a.eval x = .slice (some ⟨g, 0, none⟩) 1 1) (hg : W.heap[g]? = some (.cells #[.int .i64 p.kind, .int .i64 p.one, .int .i64 p.two, .int .i64 p.three] 43 (0, 0))) (hn : ls.length ≤ 1048576) (hlo : lo ≤ W.heap.size)
    (h : ∀ g' cap w', HDeedSl w' lo (.slice (some ⟨g', 0, none⟩) (ls.length + 1) cap) (ls ++ [p]) → W.grownBy w' v.ownBlock → wpList Tryd.prog ops Q rest (a.put o.dst (.slice (some ⟨g', 0, none⟩) (ls.length + 1) cap)) w') :
    wpList Tryd.prog ops Q (o :: rest) a W := by
  obtain ⟨i0, hi, hz0, hz1, hz2⟩ := info_parts infoHDeed
  refine wpList_append_lies W hgd s x 28 ho lo 43 i0 _ 4 32 Tryd.underlying28 hi hz0 hz1 hz2 rfl (by decide) v ls.length (hdCells ls) hs hown ⟨g, 0, none⟩ 1 1 [.int .i64 p.kind, .int .i64 p.one, .int .i64 p.two, .int .i64 p.three] hx rfl
    (World.news_of_block (cs := #[.int .i64 p.kind, .int .i64 p.one, .int .i64 p.two, .int .i64 p.three]) hg) (by simp [Value.oneCell']) (by decide) (by unfold maxLen; omega) (by omega) hlo _ rfl ?_
  intro g' cap w' h1 h2 _ _
  refine h g' cap w' ?_ h2
  unfold HDeedSl
  rw [List.length_append, hdCells_snoc]
  exact h1

set_option maxHeartbeats 400000 in
theorem eqHouseDeed_same (p : HDeed) (w : World) :
    Calls Tryd.prog 22 #[.agg #[.int .i64 p.kind, .int .i64 p.one, .int .i64 p.two, .int .i64 p.three], .agg #[.int .i64 p.kind, .int .i64 p.one, .int .i64 p.two, .int .i64 p.three]] w fun e w' => e = .returned (.bool true) ∧ Below w.heap.size w w' := by
  generalize p.kind = a
  generalize p.one = b
  generalize p.two = c
  generalize p.three = d
  have ha : (a != a) = false := by simp
  have hb : (b != b) = false := by simp
  have hc : (c != c) = false := by simp
  have hd : (d != d) = false := by simp
  go_enter Tryd.func22, Tryd.ntmps22
  go_wp2_with fail
  go_ret
  exact ⟨rfl, by go_grown⟩

set_option maxHeartbeats 1000000 in
theorem eqHouseDeedS_same (A A' : Option Addr) (c c' : Nat) (ls : List HDeed) (w : World) (h1 : HDeedsAt w A ls) (h2 : HDeedsAt w A' ls) (hl : ls.length ≤ 1048576) :
    Calls Tryd.prog 12 #[.slice A ls.length c, .slice A' ls.length c'] w fun e w' => e = .returned (.bool true) ∧ Below w.heap.size w w' := by
  have he : ((ls.length : Int) != ls.length) = false := by simp
  go_enter Tryd.func12, Tryd.ntmps12
  go_wp2_with fail
  go_loopw [5] (fun i wr => ∃ k : Nat, k ≤ ls.length ∧ i = .int .i64 k ∧ Below w.heap.size w wr) (fun i _ => ls.length - (intOf i).toNat)
  case atStart => exact ⟨0, Nat.zero_le _, rfl, Below.refl _ _⟩
  case round =>
    obtain ⟨k, hk, rfl, hb⟩ := hrel
    have hsz := hb.size
    by_cases hlt : k < ls.length
    · obtain ⟨b, off, rfl, hbl, p1, p2, p3, p4⟩ := (h1.below hb) k ls[k] (List.getElem?_eq_getElem hlt)
      obtain ⟨b', off', rfl, hbl', q1, q2, q3, q4⟩ := (h2.below hb) k ls[k] (List.getElem?_eq_getElem hlt)
      generalize ls[k] = p at *
      have hz : (0 : Int) ≤ k := by omega
      have hz2 : (k : Int) < ls.length := by omega
      have HS : Hid (∀ V, Below wr.heap.size wr V → V.cell? ⟨b, off + k * 4, none⟩ = some (.int .i64 p.kind) ∧ V.cell? ⟨b, off + k * 4 + 1, none⟩ = some (.int .i64 p.one) ∧ V.cell? ⟨b, off + k * 4 + 2, none⟩ = some (.int .i64 p.two) ∧ V.cell? ⟨b, off + k * 4 + 3, none⟩ = some (.int .i64 p.three) ∧
          V.cell? ⟨b', off' + k * 4, none⟩ = some (.int .i64 p.kind) ∧ V.cell? ⟨b', off' + k * 4 + 1, none⟩ = some (.int .i64 p.one) ∧ V.cell? ⟨b', off' + k * 4 + 2, none⟩ = some (.int .i64 p.two) ∧ V.cell? ⟨b', off' + k * 4 + 3, none⟩ = some (.int .i64 p.three)) :=
        hide (fun V hV => ⟨(hV.cell hbl).trans p1, (hV.cell hbl).trans p2, (hV.cell hbl).trans p3, (hV.cell hbl).trans p4, (hV.cell hbl').trans q1, (hV.cell hbl').trans q2, (hV.cell hbl').trans q3, (hV.cell hbl').trans q4⟩)
      clear p1 p2 p3 p4 q1 q2 q3 q4
      go_wp2_with fail
      go_region_held3 (fun V => V.cell? ⟨b, off + k * 4, none⟩ = some (.int .i64 p.kind) ∧ V.cell? ⟨b, off + k * 4 + 1, none⟩ = some (.int .i64 p.one) ∧ V.cell? ⟨b, off + k * 4 + 2, none⟩ = some (.int .i64 p.two) ∧ V.cell? ⟨b, off + k * 4 + 3, none⟩ = some (.int .i64 p.three) ∧
          V.cell? ⟨b', off' + k * 4, none⟩ = some (.int .i64 p.kind) ∧ V.cell? ⟨b', off' + k * 4 + 1, none⟩ = some (.int .i64 p.one) ∧ V.cell? ⟨b', off' + k * 4 + 2, none⟩ = some (.int .i64 p.two) ∧ V.cell? ⟨b', off' + k * 4 + 3, none⟩ = some (.int .i64 p.three))
        (first | exact HS.out _ (Below.refl _ _).drew | exact HS.out _ ((Below.refl _ _).drew.trans hB))
        (first | (go_at_call 22; refine (eqHouseDeed_same p _).mono ?_; rintro e W' ⟨rfl, hB⟩))
      have hb2 : Below w.heap.size w W' := hb.drew.trans (hB.mono hsz)
      have hsz2 := hb2.size
      go_wp2_with fail
      go_roundw
      case rel => exact ⟨k + 1, hlt, by go_num, by go_grown⟩
      case measure => simp [intOf]; omega
    · go_wp2_with fail
      go_ret
      exact ⟨rfl, by go_grown⟩

def seqHD (k0 : Int) (n : Nat) : List HDeed := (List.range n).map (fun (i : Nat) => ⟨k0 + 4 * (i : Int), k0 + 4 * (i : Int) + 1, k0 + 4 * (i : Int) + 2, k0 + 4 * (i : Int) + 3⟩)
theorem seqHD_len (k0 : Int) (n : Nat) : (seqHD k0 n).length = n := by simp [seqHD]
theorem seqHD_at {k0 : Int} {n i : Nat} (h : i < n) : (seqHD k0 n)[i]? = some ⟨k0 + 4 * (i : Int), k0 + 4 * (i : Int) + 1, k0 + 4 * (i : Int) + 2, k0 + 4 * (i : Int) + 3⟩ := by simp [seqHD, h]
theorem eq_seqHD {k0 : Int} {ys : List HDeed} {n : Nat} (hn : ys.length = n) (h : ∀ i, i < n → ys[i]? = some ⟨k0 + 4 * (i : Int), k0 + 4 * (i : Int) + 1, k0 + 4 * (i : Int) + 2, k0 + 4 * (i : Int) + 3⟩) : ys = seqHD k0 n := by
  apply List.ext_getElem?
  intro i
  by_cases hi : i < n
  · rw [h i hi, seqHD_at hi]
  · rw [List.getElem?_eq_none (by omega), List.getElem?_eq_none (by rw [seqHD_len]; omega)]

set_option maxHeartbeats 2000000 in
theorem markHouseDeedS_any (lo : Nat) (A : Option Addr) (c : Nat) (ls : List HDeed) (k0 : Int) (w : World) (h : HDeedSl w lo (.slice A ls.length c) ls) (hn : ls.length ≤ 1048576) (hk0 : 0 ≤ k0) (hk1 : k0 ≤ 10000000000000) :
    Calls Tryd.prog 15 #[.slice A ls.length c, .int .i64 k0] w fun e w' => e = .returned (.int .i64 (k0 + 4 * (ls.length : Int))) ∧ HDeedSl w' lo (.slice A ls.length c) (seqHD k0 ls.length) ∧ w.grownBy w' (Value.slice A ls.length c).ownBlock := by
  rcases Nat.eq_zero_or_pos ls.length with h0 | h0
  · have hnil : ls = [] := List.eq_nil_of_length_eq_zero h0
    subst hnil
    have h' : HDeedSl w lo (.slice A 0 c) (seqHD k0 0) := h
    simp only [List.length_nil] at *
    go_enter Tryd.func15, Tryd.ntmps15
    go_wp2_with fail
    go_loopw [1, 5] (fun kv i wr => kv = .int .i64 k0 ∧ i = .int .i64 0 ∧ wr = w) (fun _ _ _ => 0)
    case atStart => exact ⟨rfl, rfl, rfl⟩
    case round =>
      obtain ⟨rfl, rfl, rfl⟩ := hrel
      go_wp2_with fail
      go_ret
      exact ⟨by simp, h', World.grownBy.refl _ _⟩
  · obtain ⟨g, rfl⟩ : ∃ g, A = some ⟨g, 0, none⟩ := by
      rcases h.2 with ⟨hv, hz⟩ | ⟨g, cap, cur, hv, _⟩
      · omega
      · injection hv with hv
        exact ⟨g, hv⟩
    have h1 : w.ownsRow lo 43 4 (.slice (some ⟨g, 0, none⟩) ls.length c) ls.length (hdCells ls) := h
    clear h
    go_enter Tryd.func15, Tryd.ntmps15
    go_wp2_with fail
    go_loopw [1, 5] (fun kv i wr => ∃ (k : Nat) (ys : List HDeed), k ≤ ls.length ∧ kv = .int .i64 (k0 + 4 * k) ∧ i = .int .i64 k ∧ Hid (ys.length = ls.length) ∧ Hid (∀ i, i < k → ys[i]? = some ⟨k0 + 4 * (i : Int), k0 + 4 * (i : Int) + 1, k0 + 4 * (i : Int) + 2, k0 + 4 * (i : Int) + 3⟩) ∧ wr.ownsRow lo 43 4 (.slice (some ⟨g, 0, none⟩) ls.length c) ls.length (hdCells ys) ∧ w.grownBy wr (some g)) (fun _ i _ => ls.length - (intOf i).toNat)
    case atStart => exact ⟨0, ls, by omega, by simp, rfl, hide rfl, hide (fun i hi => absurd hi (by omega)), h1, World.grownBy.refl _ _⟩
    case round =>
      obtain ⟨k, ys, hk, rfl, rfl, HL, HY, hO, hg⟩ := hrel
      by_cases hlt : k < ls.length
      · have hz : (0 : Int) ≤ k := by omega
        have hz2 : (k : Int) < ls.length := by omega
        obtain ⟨p, hp⟩ : ∃ p, ys[k]? = some p := ⟨_, List.getElem?_eq_getElem (by rw [HL.out]; exact hlt)⟩
        have hcc := hdCells_at hp
        have hc1 : wr.cell? ⟨g, k * 4, none⟩ = some (.int .i64 p.kind) := by rw [World.ownsRow.cellAt hO (k * 4) (by omega)]; exact hcc.1
        have hc2 : wr.cell? ⟨g, k * 4 + 1, none⟩ = some (.int .i64 p.one) := by rw [World.ownsRow.cellAt hO (k * 4 + 1) (by omega)]; exact hcc.2.1
        have hc3 : wr.cell? ⟨g, k * 4 + 2, none⟩ = some (.int .i64 p.two) := by rw [World.ownsRow.cellAt hO (k * 4 + 2) (by omega)]; exact hcc.2.2.1
        have hc4 : wr.cell? ⟨g, k * 4 + 3, none⟩ = some (.int .i64 p.three) := by rw [World.ownsRow.cellAt hO (k * 4 + 3) (by omega)]; exact hcc.2.2.2
        have hf := fun j => World.ownsRow.frozenAt hO j
        have hs1 := World.ownsRow.stored hO (k * 4) (.int .i64 (k0 + 4 * (k : Int)))
        have hs2 := World.ownsRow.stored hs1.1 (k * 4 + 1) (.int .i64 (k0 + 4 * (k : Int) + 1))
        have hs3 := World.ownsRow.stored hs2.1 (k * 4 + 2) (.int .i64 (k0 + 4 * (k : Int) + 1 + 1))
        have hs4 := World.ownsRow.stored hs3.1 (k * 4 + 3) (.int .i64 (k0 + 4 * (k : Int) + 1 + 1 + 1))
        have HG := hide ((((hg.trans hs1.2).trans hs2.2).trans hs3.2).trans hs4.2)
        have HS := hide hs4.1
        have hne : ¬ (k * 4 + 1 = k * 4) := by omega
        have hne2 : ¬ (k * 4 + 2 = k * 4) := by omega
        have hne3 : ¬ (k * 4 + 3 = k * 4) := by omega
        clear hs1 hs2 hs3 hs4 hg hO hcc hp
        go_wp2_with fail
        go_roundw
        case rel =>
          refine ⟨k + 1, ys.set k ⟨k0 + 4 * (k : Int), k0 + 4 * (k : Int) + 1, k0 + 4 * (k : Int) + 1 + 1, k0 + 4 * (k : Int) + 1 + 1 + 1⟩, hlt, by go_num, by go_num, hide (by rw [List.length_set]; exact HL.out), hide (fun i hi => ?_), ?_, HG.out⟩
          · by_cases e : i = k
            · subst e
              rw [List.getElem?_set_self (by rw [HL.out]; exact hlt)]
              congr 2 <;> omega
            · rw [List.getElem?_set_ne (fun h => e h.symm)]
              exact HY.out i (by omega)
          · rw [← hdCells_set _ _ _ _ _ _ (by rw [HL.out]; exact hlt)]
            exact HS.out
        case measure => simp [intOf]; omega
      · have HE : Hid (ys = seqHD k0 ls.length) := hide (eq_seqHD HL.out (fun i hi => HY.out i (by omega)))
        go_wp2_with fail
        go_ret
        refine ⟨?_, ?_, hg⟩
        · have : k = ls.length := by omega
          subst this
          rfl
        · rw [← HE.out]
          unfold HDeedSl
          rw [HL.out]
          exact hO

set_option maxHeartbeats 1000000 in
theorem heldHouseDeedS_any (A : Option Addr) (c n : Nat) (k0 : Int) (w : World) (h : HDeedsAt w A (seqHD k0 n)) (hn : n ≤ 1048576) (hk0 : 0 ≤ k0) (hk1 : k0 ≤ 10000000000000) :
    Calls Tryd.prog 16 #[.slice A n c, .int .i64 k0] w fun e w' => e = .returned (.int .i64 (k0 + 4 * (n : Int))) ∧ w' = w := by
  go_enter Tryd.func16, Tryd.ntmps16
  go_wp2_with fail
  go_loopw [1, 5] (fun kv i wr => ∃ (k : Nat), k ≤ n ∧ kv = .int .i64 (k0 + 4 * k) ∧ i = .int .i64 k ∧ wr = w) (fun _ i _ => n - (intOf i).toNat)
  case atStart => exact ⟨0, by omega, by simp, rfl, rfl⟩
  case round =>
    obtain ⟨k, hk, rfl, rfl, rfl⟩ := hrel
    by_cases hlt : k < n
    · obtain ⟨b, off, rfl, hbl, hc1, hc2, hc3, hc4⟩ := h k _ (seqHD_at hlt)
      have hz : (0 : Int) ≤ k := by omega
      have hz2 : (k : Int) < n := by omega
      have he : (k0 + 4 * (k : Int) != k0 + 4 * (k : Int)) = false := by simp
      have he2 : (k0 + 4 * (k : Int) + 1 != k0 + 4 * (k : Int) + 1) = false := by simp
      have he3 : (k0 + 4 * (k : Int) + 2 != k0 + 4 * (k : Int) + 2) = false := by simp
      have he4 : (k0 + 4 * (k : Int) + 3 != k0 + 4 * (k : Int) + 3) = false := by simp
      go_wp2_with fail
      go_roundw
      case rel => exact ⟨k + 1, hlt, by go_num, by go_num, trivial⟩
      case measure => simp [intOf]; omega
    · obtain rfl : n = k := by omega
      go_wp2_with fail
      go_ret
      exact ⟨rfl, rfl⟩
end Go.Proofs.YtmepnilnlpoodaaDoor
