/- The marks of a plan; items marked with a bound on what is answered.
   Conditions: lists have at most 1048576 elements. -/
import Derived.Test.YteloapholoechaaMark
import Derived.Test.YteloapholoechaaMarks2
import Derived.Test.YteloapholoechaaSlKit
namespace Go.Proofs.Yteloapholoechaa
open Go.RowKit Go.ChangeShapes Go.WideShapes Go.ChangeAt

/-- Of what lies in other blocks than two nothing has changed. -/
structure Far2 (w w' : World) (o1 o2 : Option Nat) : Prop where
  os : w'.os = w.os
  tape : w'.tape = w.tape
  output : w'.output = w.output
  size : w.heap.size ≤ w'.heap.size
  block : ∀ k, k < w.heap.size → o1 ≠ some k → o2 ≠ some k → w'.heap[k]? = w.heap[k]?
theorem Far2.intSl {w w' : World} {o1 o2 : Option Nat} {lo : Nat} {v : Value} {xs : List Int} (h : Far2 w w' o1 o2) (hS : IntSl w lo v xs) (h1 : ∀ k, v.ownBlock = some k → o1 ≠ some k ∧ o2 ≠ some k) : IntSl w' lo v xs := by
  have hlt := hS.lt
  obtain ⟨a, b⟩ := hS
  refine ⟨a, ?_⟩
  rcases b with hn | ⟨g, cap, cur, rfl, hb', hg, r⟩
  · exact .inl hn
  · exact .inr ⟨g, cap, cur, rfl, hb', (h.block g (hlt g rfl).2 (h1 g rfl).1 (h1 g rfl).2).trans hg, r⟩
theorem Far2.below {w w' : World} {o1 o2 : Option Nat} {B : Nat} (h : Far2 w w' o1 o2) (hB : B ≤ w.heap.size) (h1 : ∀ k, o1 = some k → B ≤ k) (h2 : ∀ k, o2 = some k → B ≤ k) : Below B w w' :=
  ⟨h.os, h.tape, h.output, h.size, fun k hk => h.block k (by omega) (fun e => by have := h1 k e; omega) (fun e => by have := h2 k e; omega)⟩

set_option maxHeartbeats 1000000 in
theorem markPlan_any (lo : Nat) (A A' : Option Addr) (c c' : Nat) (xs ys : List Int) (k0 : Int) (w : World) (h1 : IntSl w lo (.slice A xs.length c) xs) (h2 : IntSl w lo (.slice A' ys.length c') ys)
    (hd : (Value.slice A xs.length c).ownBlock = none ∨ (Value.slice A xs.length c).ownBlock ≠ (Value.slice A' ys.length c').ownBlock) (hn : xs.length ≤ 1048576) (hm : ys.length ≤ 1048576) (hk0 : 0 ≤ k0) (hk1 : k0 ≤ 9000000000000) :
    Calls Try.prog 15 #[.agg #[.slice A xs.length c, .slice A' ys.length c'], .int .i64 k0] w fun e w' => e = .returned (.int .i64 (k0 + (xs.length : Int) + (ys.length : Int))) ∧
      IntSl w' lo (.slice A xs.length c) (seqK k0 xs.length) ∧ IntSl w' lo (.slice A' ys.length c') (seqK (k0 + (xs.length : Int)) ys.length) ∧ Far2 w w' (Value.slice A xs.length c).ownBlock (Value.slice A' ys.length c').ownBlock := by
  have HL1 := hide (World.ownsRow.lt h1)
  have HL2 := hide (World.ownsRow.lt h2)
  have HA1 : Hid (IntSl (w.alloc (.cells #[.slice A xs.length c, .slice A' ys.length c'] 26)) lo (.slice A xs.length c) xs) := hide (World.ownsRow.alloc h1 _)
  have HA2 : Hid (IntSl (w.alloc (.cells #[.slice A xs.length c, .slice A' ys.length c'] 26)) lo (.slice A' ys.length c') ys) := hide (World.ownsRow.alloc h2 _)
  have HBX : Hid ((w.alloc (.cells #[.slice A xs.length c, .slice A' ys.length c'] 26)).heap[w.heap.size]? = some (.cells #[.slice A xs.length c, .slice A' ys.length c'] 26)) := hide (heap_alloc_new w _)
  have HD := hide hd
  clear h1 h2 hd
  go_enter Try.func15, Try.ntmps15
  go_wp2_with fail
  refine (markIntS_any lo _ _ _ _ _ HA1.out hn hk0 (by omega)).mono ?_
  rintro e w1 ⟨rfl, hM1, hg1⟩
  have hM2 := HA2.out.row hg1 (by
    rcases HD.out with h | h
    · rw [h]
      cases e : (Value.slice A' ys.length c').ownBlock with
      | none => exact .inl rfl
      | some k => exact .inr (by simp)
    · exact .inr (fun e => h e.symm))
  have hbx1 : w1.heap[w.heap.size]? = some (.cells #[.slice A xs.length c, .slice A' ys.length c'] 26) := (hg1.block _ (by simp) (fun e => by have := (HL1.out _ e.symm).2; omega)).trans HBX.out
  have hy0 : w1.cell? ⟨w.heap.size, 0, none⟩ = some (.slice A xs.length c) := by rw [cell_of_row _ _ 0 _ _ _ hbx1]; rfl
  have hy1 : w1.cell? ⟨w.heap.size, 1, none⟩ = some (.slice A' ys.length c') := by rw [cell_of_row _ _ 1 _ _ _ hbx1]; rfl
  have HM1 := hide hM1
  have HM2 := hide hM2
  have HG1 := hide hg1
  clear hM1 hM2 hg1 hbx1
  go_wp2_with fail
  refine (markIntS_any lo _ _ _ _ _ HM2.out hm (by omega) (by omega)).mono ?_
  rintro e w2 ⟨rfl, hN2, hg2⟩
  have hN1 := HM1.out.row hg2 HD.out
  have HN1 := hide hN1
  have HN2 := hide hN2
  have HG2 := hide hg2
  clear hN1 hN2 hg2 hy0 hy1
  go_wp2_with fail
  go_ret
  have hs1 := HG1.out.size
  have hs2 := HG2.out.size
  simp at hs1
  exact ⟨rfl, HN1.out, HN2.out, ⟨HG2.out.os.trans HG1.out.os, HG2.out.tape.trans HG1.out.tape, HG2.out.output.trans HG1.out.output, by omega, fun k hk e1 e2 =>
    (HG2.out.block k (by omega) (fun e => e2 e.symm)).trans ((HG1.out.block k (by simp; omega) (fun e => e1 e.symm)).trans (heap_alloc_old w _ hk))⟩⟩
set_option maxHeartbeats 1000000 in
theorem heldPlan_any (A A' : Option Addr) (c c' n m : Nat) (k0 : Int) (w : World) (h1 : IntsAt w A (seqK k0 n)) (h2 : IntsAt w A' (seqK (k0 + (n : Int)) m)) (hn : n ≤ 1048576) (hm : m ≤ 1048576) (hk0 : 0 ≤ k0) (hk1 : k0 ≤ 1000000000000) :
    Calls Try.prog 16 #[.agg #[.slice A n c, .slice A' m c'], .int .i64 k0] w fun e w' => e = .returned (.int .i64 (k0 + (n : Int) + (m : Int))) ∧ Below w.heap.size w w' := by
  have hB : Below w.heap.size w (w.alloc (.cells #[.slice A n c, .slice A' m c'] 26)) := (Below.refl _ _).alloc (Nat.le_refl _) _
  have HA1 := hide (h1.below hB)
  have HA2 := hide (h2.below hB)
  have hd1 : decide (k0 + (n : Int) < 0) = false := decide_eq_false (by omega)
  have hd2 : decide (k0 + (n : Int) + (m : Int) < 0) = false := decide_eq_false (by omega)
  clear h1 h2
  go_enter Try.func16, Try.ntmps16
  go_wp2_with fail
  refine (heldIntS_any _ _ _ _ _ HA1.out hn hk0 (by omega)).mono ?_
  rintro e w1 ⟨rfl, rfl⟩
  go_wp2_with fail
  refine (heldIntS_any _ _ _ _ _ HA2.out hm (by omega) (by omega)).mono ?_
  rintro e w2 ⟨rfl, rfl⟩
  go_wp2_with fail
  go_ret
  exact ⟨rfl, hB⟩
set_option maxHeartbeats 1000000 in
theorem markItemS_bd (lo hi g c : Nat) (l : List Item) (w : World) (h : OwnIn w lo hi g l) (hl : l.length ≤ 1048576) (hp : ∀ x ∈ l, x.parts.length ≤ 1048576) :
    Calls Try.prog 13 #[.slice (some ⟨g, 0, none⟩) l.length c, .int .i64 1] w fun e w' => ∃ r : Int, e = .returned (.int .i64 r) ∧ 0 ≤ r ∧ r ≤ 3000000000000 ∧ Within lo hi w w' := by
  have HP := hide hp
  clear hp
  go_enter Try.func13, Try.ntmps13
  go_wp2_with fail
  go_loopw [1, 5] (fun kv i wr => ∃ (j : Nat) (r : Int), j ≤ l.length ∧ 0 ≤ r ∧ r ≤ 1 + 2097154 * j ∧ kv = .int .i64 r ∧ i = .int .i64 j ∧ OwnIn wr lo hi g l ∧ Within lo hi w wr) (fun _ i _ => l.length - (intOf i).toNat)
  case atStart => exact ⟨0, 1, by omega, by omega, by omega, rfl, rfl, h, Within.refl _ _ _⟩
  case round =>
    obtain ⟨j, r, hj, hr0, hr1, rfl, rfl, hO, hW⟩ := hrel
    by_cases hlt : j < l.length
    · obtain ⟨G, hlo, ⟨f, hrow, hcs⟩, hrest⟩ := hO
      have hO : OwnIn wr lo hi g l := ⟨G, hlo, ⟨f, hrow, hcs⟩, hrest⟩
      have hx := List.getElem?_eq_getElem hlt
      have hpl := HP.out _ (List.getElem_mem hlt)
      obtain ⟨hgl, hgh, f2, hrow2⟩ := hrest j _ hx
      have hc1 := hrow.cell (i := j * 3) (by omega)
      have hc2 := hrow.cell (i := j * 3 + 1) (by omega)
      have hc3 := hrow.cell (i := j * 3 + 2) (by omega)
      rw [hcs j _ hx] at hc2
      have hf := hrow.frozen
      generalize l[j] = x at *
      generalize G j = q at *
      have hO1 := hO.set (j * 3) (by omega) (.int .i64 r)
      have hW1 := hW.grown (grown_set wr g (j * 3) (.int .i64 r)) hlo.1 hlo.2
      have hrow3 := hrow2.setOther (a := ⟨g, j * 3, none⟩) (by show q ≠ g; omega) (.int .i64 r)
      have HO1 := hide hO1
      have HW1 := hide hW1
      have HR3 := hide hrow3
      have HLO := hide hlo
      clear hO hW hrow2 hO1 hW1 hrow3 hrow hrest hcs hx
      have hz : (0 : Int) ≤ j := by omega
      have hz2 : (j : Int) < l.length := by omega
      go_wp2_with fail
      refine (markPartS_any _ _ _ _ _ _ HR3.out hpl (by omega) (by omega)).mono ?_
      rintro e w2 ⟨rfl, hg2, hs2⟩
      have hO2 := HO1.out.shape hs2 hg2 (by omega)
      have hW2 := HW1.out.grown hg2 (by have := HLO.out.1; omega) hgh
      have HO3 := hide (hO2.set (j * 3 + 2) (by omega) (.int .i64 (r + 1 + 2 * (x.parts.length : Int))))
      have HW3 := hide (hW2.grown (grown_set w2 g (j * 3 + 2) (.int .i64 (r + 1 + 2 * (x.parts.length : Int)))) HLO.out.1 HLO.out.2)
      obtain ⟨G2, _, ⟨f4, hrow4, _⟩, _⟩ := hO2
      have hd3 := hrow4.cell (i := j * 3 + 2) (by omega)
      have hf4 := hrow4.frozen
      clear hW2 hg2 hs2 hrow4 hc1 hc2 hc3 hf
      go_wp2_with fail
      go_roundw
      case rel => exact ⟨j + 1, _, hlt, by omega, by omega, rfl, by go_num, HO3.out, HW3.out⟩
      case measure => simp [intOf]; omega
    · go_wp2_with fail
      refine bodyPost_ret (results_tmp rfl _ _ _) rfl ⟨r, rfl, hr0, by omega, hW⟩
end Go.Proofs.Yteloapholoechaa
