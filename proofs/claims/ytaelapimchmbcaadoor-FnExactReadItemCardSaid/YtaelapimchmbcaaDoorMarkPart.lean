/- Marks of an item whose parts a call owns: the parts are marked and asked from any start; two items of one text are equal.
   Conditions: at most 1048576 parts. -/
import Derived.Test.YtaelapimchmbcaaDoorLots
import Derived.Test.YtaelapimchmbcaaDoorDraw2
import Derived.Test.YtaelapimchmbcaaDoorTo
namespace Go.Proofs.YtaelapimchmbcaaDoor
open Go.RowKit Go.ChangeShapes Go.WideShapes Go.ChangeAt

theorem ownsRow_headP {w : World} {lo : Nat} {e : TypeId} {size n c : Nat} {A : Option Addr} {xs : List Value} (h : w.ownsRow lo e size (.slice A n c) n xs) (h0 : 0 < n) : ∃ g, A = some ⟨g, 0, none⟩ := by
  rcases h.2 with ⟨hv, hz⟩ | ⟨g, cap, cur, hv, _⟩
  · omega
  · injection hv with hv
    exact ⟨g, hv⟩
theorem partCells_consP (q : Part) (r : List Part) : partCells (q :: r) = .int .i64 q.of :: .int .i64 q.many :: partCells r := by simp [partCells]
theorem partCells_set (a b : Int) : ∀ (ls : List Part) (i : Nat), i < ls.length → ((partCells ls).set (i * 2) (.int .i64 a)).set (i * 2 + 1) (.int .i64 b) = partCells (ls.set i ⟨a, b⟩)
  | [], i, h => by simp at h
  | q :: r, 0, _ => by rw [List.set_cons_zero, partCells_consP, partCells_consP]; rfl
  | q :: r, i + 1, h => by
    have ih := partCells_set a b r i (by simpa using h)
    rw [List.set_cons_succ, partCells_consP, partCells_consP, ← ih, show (i + 1) * 2 = i * 2 + 1 + 1 from by omega]
    rfl
theorem partCells_cell {ls : List Part} {j : Nat} (h : j < ls.length * 2) : (partCells ls)[j]? = some (partCell ls j) := by
  have hi : j / 2 < ls.length := by omega
  have hx := List.getElem?_eq_getElem hi
  have hc := partCells_at hx
  rcases (by omega : j = j / 2 * 2 ∨ j = j / 2 * 2 + 1) with e | e
  · rw [e, hc.1, partCell_even hx]
  · rw [e, hc.2, partCell_odd hx]
theorem PartSl.parts {w : World} {lo n c : Nat} {A : Option Addr} {ps : List Part} (h : PartSl w lo (.slice A n c) ps) : PartsAt w A ps := by
  obtain ⟨A', c', e, hI⟩ := h.form
  injection e with e
  rw [e]
  exact hI
theorem PartSl.belowP {w w' : World} {lo : Nat} {v : Value} {ls : List Part} (h : PartSl w lo v ls) (hb : Below w.heap.size w w') : PartSl w' lo v ls := ownsRow_below h hb
theorem PartSl.rowP {w w' : World} {lo : Nat} {v : Value} {ls : List Part} {q : Option Nat} (h : PartSl w lo v ls) (hg : w.grownBy w' q) (hne : v.ownBlock = none ∨ v.ownBlock ≠ q) : PartSl w' lo v ls := World.ownsRow.kept h hg hne

def seqParts (k0 : Int) (n : Nat) : List Part := (List.range n).map (fun (i : Nat) => ⟨k0 + 2 * (i : Int), k0 + 2 * (i : Int) + 1⟩)
theorem seqParts_len (k0 : Int) (n : Nat) : (seqParts k0 n).length = n := by simp [seqParts]
theorem seqParts_at {k0 : Int} {n i : Nat} (h : i < n) : (seqParts k0 n)[i]? = some ⟨k0 + 2 * (i : Int), k0 + 2 * (i : Int) + 1⟩ := by simp [seqParts, h]
theorem eq_seqParts {k0 : Int} {ys : List Part} {n : Nat} (hn : ys.length = n) (h : ∀ i, i < n → ys[i]? = some ⟨k0 + 2 * (i : Int), k0 + 2 * (i : Int) + 1⟩) : ys = seqParts k0 n := by
  apply List.ext_getElem?
  intro i
  by_cases hi : i < n
  · rw [h i hi, seqParts_at hi]
  · rw [List.getElem?_eq_none (by omega), List.getElem?_eq_none (by rw [seqParts_len]; omega)]

set_option maxHeartbeats 800000 in
theorem markPartR_any (lo : Nat) (A : Option Addr) (c : Nat) (ls : List Part) (k0 : Int) (w : World) (h : PartSl w lo (.slice A ls.length c) ls) (hn : ls.length ≤ 1048576) (hk0 : 0 ≤ k0) (hk1 : k0 ≤ 10000000000000) :
    Calls Tryd.prog 36 #[.slice A ls.length c, .int .i64 k0] w fun e w' => e = .returned (.int .i64 (k0 + 2 * (ls.length : Int))) ∧ PartSl w' lo (.slice A ls.length c) (seqParts k0 ls.length) ∧ w.grownBy w' (Value.slice A ls.length c).ownBlock := by
  rcases Nat.eq_zero_or_pos ls.length with h0 | h0
  · have hnil : ls = [] := List.eq_nil_of_length_eq_zero h0
    subst hnil
    have h' : PartSl w lo (.slice A 0 c) (seqParts k0 0) := h
    simp only [List.length_nil] at *
    go_enter Tryd.func36, Tryd.ntmps36
    go_wp2_with fail
    go_loopw [1, 5] (fun kv i wr => kv = .int .i64 k0 ∧ i = .int .i64 0 ∧ wr = w) (fun _ _ _ => 0)
    case atStart => exact ⟨rfl, rfl, rfl⟩
    case round =>
      obtain ⟨rfl, rfl, rfl⟩ := hrel
      go_wp2_with fail
      go_ret
      exact ⟨by simp, h', World.grownBy.refl _ _⟩
  · obtain ⟨g, rfl⟩ := ownsRow_headP h h0
    have h1 : w.ownsRow lo 48 2 (.slice (some ⟨g, 0, none⟩) ls.length c) ls.length (partCells ls) := h
    clear h
    go_enter Tryd.func36, Tryd.ntmps36
    go_wp2_with fail
    go_loopw [1, 5] (fun kv i wr => ∃ (k : Nat) (ys : List Part), k ≤ ls.length ∧ kv = .int .i64 (k0 + 2 * k) ∧ i = .int .i64 k ∧ Hid (ys.length = ls.length) ∧ Hid (∀ i, i < k → ys[i]? = some ⟨k0 + 2 * (i : Int), k0 + 2 * (i : Int) + 1⟩) ∧ wr.ownsRow lo 48 2 (.slice (some ⟨g, 0, none⟩) ls.length c) ls.length (partCells ys) ∧ w.grownBy wr (some g)) (fun _ i _ => ls.length - (intOf i).toNat)
    case atStart => exact ⟨0, ls, by omega, by simp, rfl, hide rfl, hide (fun i hi => absurd hi (by omega)), h1, World.grownBy.refl _ _⟩
    case round =>
      obtain ⟨k, ys, hk, rfl, rfl, HL, HY, hO, hg⟩ := hrel
      by_cases hlt : k < ls.length
      · have hz : (0 : Int) ≤ k := by omega
        have hz2 : (k : Int) < ls.length := by omega
        have hc1 : wr.cell? ⟨g, k * 2, none⟩ = some (partCell ys (k * 2)) := by
          rw [World.ownsRow.cellAt hO (k * 2) (by omega)]
          exact partCells_cell (by rw [HL.out]; omega)
        have hc2 : wr.cell? ⟨g, k * 2 + 1, none⟩ = some (partCell ys (k * 2 + 1)) := by
          rw [World.ownsRow.cellAt hO (k * 2 + 1) (by omega)]
          exact partCells_cell (by rw [HL.out]; omega)
        have hf := fun j => World.ownsRow.frozenAt hO j
        have hs1 := World.ownsRow.stored hO (k * 2) (.int .i64 (k0 + 2 * (k : Int)))
        have hs2 := World.ownsRow.stored hs1.1 (k * 2 + 1) (.int .i64 (k0 + 2 * (k : Int) + 1))
        have HG := hide ((hg.trans hs1.2).trans hs2.2)
        have HS := hide hs2.1
        have hne : ¬ (k * 2 + 1 = k * 2) := by omega
        clear hs1 hs2 hg hO
        go_wp2_with fail
        go_roundw
        case rel =>
          refine ⟨k + 1, ys.set k ⟨k0 + 2 * (k : Int), k0 + 2 * (k : Int) + 1⟩, hlt, by go_num, by go_num, hide (by rw [List.length_set]; exact HL.out), hide (fun i hi => ?_), ?_, HG.out⟩
          · by_cases e : i = k
            · subst e
              exact List.getElem?_set_self (by rw [HL.out]; exact hlt)
            · rw [List.getElem?_set_ne (fun h => e h.symm)]
              exact HY.out i (by omega)
          · rw [← partCells_set _ _ _ _ (by rw [HL.out]; exact hlt)]
            exact HS.out
        case measure => simp [intOf]; omega
      · have HE : Hid (ys = seqParts k0 ls.length) := hide (eq_seqParts HL.out (fun i hi => HY.out i (by omega)))
        go_wp2_with fail
        go_ret
        refine ⟨?_, ?_, hg⟩
        · have : k = ls.length := by omega
          subst this
          rfl
        · rw [← HE.out]
          unfold PartSl
          rw [HL.out]
          exact hO

set_option maxHeartbeats 400000 in
theorem heldPartR_any (A : Option Addr) (c n : Nat) (k0 : Int) (w : World) (h : PartsAt w A (seqParts k0 n)) (hn : n ≤ 1048576) (hk0 : 0 ≤ k0) (hk1 : k0 ≤ 10000000000000) :
    Calls Tryd.prog 37 #[.slice A n c, .int .i64 k0] w fun e w' => e = .returned (.int .i64 (k0 + 2 * (n : Int))) ∧ w' = w := by
  go_enter Tryd.func37, Tryd.ntmps37
  go_wp2_with fail
  go_loopw [1, 5] (fun kv i wr => ∃ (k : Nat), k ≤ n ∧ kv = .int .i64 (k0 + 2 * k) ∧ i = .int .i64 k ∧ wr = w) (fun _ i _ => n - (intOf i).toNat)
  case atStart => exact ⟨0, by omega, by simp, rfl, rfl⟩
  case round =>
    obtain ⟨k, hk, rfl, rfl, rfl⟩ := hrel
    by_cases hlt : k < n
    · obtain ⟨b, off, rfl, hbl, hc1, hc2⟩ := h k _ (seqParts_at hlt)
      have hz : (0 : Int) ≤ k := by omega
      have hz2 : (k : Int) < n := by omega
      have he : (k0 + 2 * (k : Int) != k0 + 2 * (k : Int)) = false := by simp
      have he2 : (k0 + 2 * (k : Int) + 1 != k0 + 2 * (k : Int) + 1) = false := by simp
      go_wp2_with fail
      go_roundw
      case rel => exact ⟨k + 1, hlt, by go_num, by go_num, trivial⟩
      case measure => simp [intOf]; omega
    · obtain rfl : n = k := by omega
      go_wp2_with fail
      go_ret
      exact ⟨rfl, rfl⟩

set_option maxHeartbeats 800000 in
theorem markItem_any (lo : Nat) (A : Option Addr) (c : Nat) (ps : List Part) (y m : Int) (w : World) (h : PartSl w lo (.slice A ps.length c) ps) (hn : ps.length ≤ 1048576) :
    Calls Tryd.prog 18 #[.agg #[.int .i64 y, .slice A ps.length c, .int .i64 m], .int .i64 1] w fun e w' => e = .returned (.int .i64 (1 + 2 * (ps.length : Int))) ∧ PartSl w' lo (.slice A ps.length c) (seqParts 1 ps.length) ∧ w.grownBy w' (Value.slice A ps.length c).ownBlock := by
  have HM := hide (fun V (hV : PartSl V lo (.slice A ps.length c) ps) => markPartR_any lo A c ps 1 V hV hn (by omega) (by omega))
  have hba : Below w.heap.size w (w.alloc (.cells #[.int .i64 y, .slice A ps.length c, .int .i64 m] 25)) := by go_grown
  have hbx := heap_alloc_new w (.cells #[.int .i64 y, .slice A ps.length c, .int .i64 m] 25)
  go_enter Tryd.func18, Tryd.ntmps18
  go_upto_region 1 with fail
  obtain ⟨W, hW⟩ : ∃ W, w.alloc (.cells #[.int .i64 y, .slice A ps.length c, .int .i64 m] 25) = W := ⟨_, rfl⟩
  rw [hW] at hba hbx ⊢
  clear hW
  have HP := hide (h.belowP hba)
  clear h
  have c1 : W.cell? ⟨w.heap.size, 1, none⟩ = some (.slice A ps.length c) := by rw [cell_of_row _ _ 1 _ _ _ hbx]; rfl
  clear hbx
  go_wp2_with fail
  refine (HM.out _ HP.out).mono ?_
  rintro e w1 ⟨rfl, hS, hg⟩
  have HS := hide hS
  have HG : Hid (w.grownBy w1 (Value.slice A ps.length c).ownBlock) := hide ⟨hg.os.trans hba.os, hg.tape.trans hba.tape, hg.output.trans hba.output, Nat.le_trans hba.size hg.size, fun j hj hne => (hg.block j (Nat.lt_of_lt_of_le hj hba.size) hne).trans (hba.block j hj)⟩
  clear hS hg hba c1
  go_wp2_with fail
  go_ret
  exact ⟨rfl, HS.out, HG.out⟩

set_option maxHeartbeats 800000 in
theorem heldItem_any (A : Option Addr) (c n : Nat) (y m : Int) (w : World) (h : PartsAt w A (seqParts 1 n)) (hn : n ≤ 1048576) :
    Calls Tryd.prog 19 #[.agg #[.int .i64 y, .slice A n c, .int .i64 m], .int .i64 1] w fun e w' => e = .returned (.int .i64 (1 + 2 * (n : Int))) ∧ Below w.heap.size w w' := by
  have HM := hide (fun V (hV : PartsAt V A (seqParts 1 n)) => heldPartR_any A c n 1 V hV hn (by omega) (by omega))
  have hba : Below w.heap.size w (w.alloc (.cells #[.int .i64 y, .slice A n c, .int .i64 m] 25)) := by go_grown
  have hbx := heap_alloc_new w (.cells #[.int .i64 y, .slice A n c, .int .i64 m] 25)
  have hr : ¬ (1 + 2 * (n : Int) < 0) := by omega
  go_enter Tryd.func19, Tryd.ntmps19
  go_upto_region 1 with fail
  obtain ⟨W, hW⟩ : ∃ W, w.alloc (.cells #[.int .i64 y, .slice A n c, .int .i64 m] 25) = W := ⟨_, rfl⟩
  rw [hW] at hba hbx ⊢
  clear hW
  have HP := hide (h.below hba)
  clear h
  have c1 : W.cell? ⟨w.heap.size, 1, none⟩ = some (.slice A n c) := by rw [cell_of_row _ _ 1 _ _ _ hbx]; rfl
  clear hbx
  go_wp2_with fail
  refine (HM.out _ HP.out).mono ?_
  rintro e w1 ⟨rfl, rfl⟩
  clear c1
  go_wp2_with fail
  go_ret
  exact ⟨rfl, hba⟩
end Go.Proofs.YtaelapimchmbcaaDoor
