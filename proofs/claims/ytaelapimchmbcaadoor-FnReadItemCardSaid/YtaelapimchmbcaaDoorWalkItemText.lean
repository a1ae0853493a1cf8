/- For all drawn bytes the law of ItemText answers true, and its argument reads as it did.
   Conditions: the library's variables hold what their types ask. -/
import Derived.Test.YtaelapimchmbcaaDoorLibStart
import Derived.Test.YtaelapimchmbcaaDoorTextS
import Derived.StillTail
import Derived.OrdersIn
namespace Go.Proofs.YtaelapimchmbcaaDoor
open Go.RowKit Go.ChangeShapes Go.WideShapes Go.ChangeAt Go.Deep

set_option maxRecDepth 100000 in
set_option maxHeartbeats 2000000 in
theorem sameItem_any (A A' : Option Addr) (c c' : Nat) (y m : Int) (ps : List Part) (w : World) (hA : PartsAt w A ps) (hA' : PartsAt w A' ps) (hl : ps.length ≤ 1048576) :
    Calls Tryd.prog 12 #[.agg #[.int .i64 y, .slice A ps.length c, .int .i64 m], .agg #[.int .i64 y, .slice A' ps.length c', .int .i64 m]] w fun e w' => e = .returned (.bool true) ∧ Below w.heap.size w w' := by
  have hy : (y != y) = false := by simp
  have hm : (m != m) = false := by simp
  have hn : ((ps.length : Int) != (ps.length : Int)) = false := by simp
  have hba : Below w.heap.size w ((w.alloc (.cells #[.int .i64 y, .slice A ps.length c, .int .i64 m] 25)).alloc (.cells #[.int .i64 y, .slice A' ps.length c', .int .i64 m] 25)) := by go_grown
  have hx0 := (heap_alloc_old (w.alloc (.cells #[.int .i64 y, .slice A ps.length c, .int .i64 m] 25)) (.cells #[.int .i64 y, .slice A' ps.length c', .int .i64 m] 25) (by simp : w.heap.size < _)).trans (heap_alloc_new w _)
  have hx1 : ((w.alloc (.cells #[.int .i64 y, .slice A ps.length c, .int .i64 m] 25)).alloc (.cells #[.int .i64 y, .slice A' ps.length c', .int .i64 m] 25)).heap[w.heap.size + 1]? = some (.cells #[.int .i64 y, .slice A' ps.length c', .int .i64 m] 25 (0, 0)) := by
    have := heap_alloc_new (w.alloc (.cells #[.int .i64 y, .slice A ps.length c, .int .i64 m] 25)) (.cells #[.int .i64 y, .slice A' ps.length c', .int .i64 m] 25)
    simpa using this
  go_enter Tryd.func12, Tryd.ntmps12
  go_upto_region 1 with fail
  obtain ⟨W, hW⟩ : ∃ W, ((w.alloc (.cells #[.int .i64 y, .slice A ps.length c, .int .i64 m] 25)).alloc (.cells #[.int .i64 y, .slice A' ps.length c', .int .i64 m] 25)) = W := ⟨_, rfl⟩
  rw [hW] at hba hx0 hx1 ⊢
  clear hW
  obtain ⟨c0, c1, c2⟩ := cells3I hx0
  obtain ⟨d0, d1, d2⟩ := cells3I hx1
  have HP := hide (hA.below hba)
  have HP' := hide (hA'.below hba)
  go_wp2_with fail
  go_loopw [5] (fun iv wr => ∃ k : Nat, k ≤ ps.length ∧ iv = .int .i64 k ∧ Hid (Below W.heap.size W wr)) (fun iv _ => ps.length - (intOf iv).toNat)
  case atStart => exact ⟨0, Nat.zero_le _, rfl, hide (Below.refl _ _)⟩
  case round =>
    obtain ⟨k, hk, rfl, HB⟩ := hrel
    have e1 := (HB.out.cell (p := ⟨w.heap.size, 1, none⟩) (heap_ltI hx0)).trans c1
    have e2 := (HB.out.cell (p := ⟨w.heap.size + 1, 1, none⟩) (heap_ltI hx1)).trans d1
    by_cases hlt : k < ps.length
    · obtain ⟨b, off, rfl, hbl, p0, p1⟩ := (HP.out.below HB.out) k ps[k] (List.getElem?_eq_getElem hlt)
      obtain ⟨b', off', rfl, hbl', q0, q1⟩ := (HP'.out.below HB.out) k ps[k] (List.getElem?_eq_getElem hlt)
      generalize ps[k] = p at p0 p1 q0 q1
      have hz : (0 : Int) ≤ k := by omega
      have hz2 : (k : Int) < ps.length := by omega
      go_wp2_with fail
      go_quiet (fail)
      go_wp2_with fail
      go_roundw
      case rel => exact ⟨k + 1, hlt, by go_num, hide (below_drewN HB.out _)⟩
      case measure => simp [intOf]; omega
    · have hbe := hba.trans (HB.out.mono hba.size)
      go_wp2_with fail
      go_ret
      exact ⟨rfl, hbe⟩

theorem bytes_belowT {w w' : World} {A : Option Addr} {m : Nat} (h : BytesIn w A m) (hb : Below w.heap.size w w') : BytesIn w' A m := fun i hi => by
  obtain ⟨ab, off, v, e, hlt, h5, h6, h7⟩ := h i hi
  exact ⟨ab, off, v, e, Nat.lt_of_lt_of_le hlt hb.size, h5, h6, (hb.cell hlt).trans h7⟩
theorem tb_ne {W : World} {b off : Nat} {a1 a2 a3 : Value} (hT : TB W (some ⟨b, off, none⟩) 48) (h : W.heap[b]? = some (.cells #[a1, a2, a3] 25 (0, 0))) : False := by
  obtain ⟨-, cs, hc⟩ := hT _ rfl
  have hc' : W.heap[b]? = some (.cells cs 48 (0, 0)) := hc
  rw [h] at hc'
  injection hc' with hc'
  injection hc' with _ e _
  exact absurd e (by decide)
theorem partsAt_put3 {W : World} {X : Nat} {A : Option Addr} {ps : List Part} {a b c u v x : Value} (hP : PartsAt W A ps) (hT : TB W A 48) (h : W.heap[X]? = some (.cells #[a, b, c] 25 (0, 0))) :
    PartsAt (((W.setCell ⟨X, 0, none⟩ u).setCell ⟨X, 1, none⟩ v).setCell ⟨X, 2, none⟩ x) A ps := by
  intro i p hp
  obtain ⟨b9, off, rfl, hlt, h0, h1⟩ := hP i p hp
  have hne : X ≠ b9 := by
    intro e
    subst e
    exact tb_ne hT h
  refine ⟨b9, off, rfl, by simpa using hlt, ?_, ?_⟩
  · rw [World.cell?_setCell_other _ _ _ _ (by intro e; injection e with e; exact hne e), World.cell?_setCell_other _ _ _ _ (by intro e; injection e with e; exact hne e), World.cell?_setCell_other _ _ _ _ (by intro e; injection e with e; exact hne e)]; exact h0
  · rw [World.cell?_setCell_other _ _ _ _ (by intro e; injection e with e; exact hne e), World.cell?_setCell_other _ _ _ _ (by intro e; injection e with e; exact hne e), World.cell?_setCell_other _ _ _ _ (by intro e; injection e with e; exact hne e)]; exact h1
def DrawnIT (w : World) (e : Ending) (w' : World) : Prop := ∃ (x : Item) (A : Option Addr) (c : Nat), e = .returned (.agg #[.int .i64 x.yield, .slice A x.parts.length c, .int .i64 x.marks]) ∧ PartsAt w' A x.parts ∧ x.parts.length ≤ 5 ∧ Below w.heap.size w w'
set_option maxRecDepth 100000 in
set_option maxHeartbeats 1000000 in
theorem drawItemText_any (A : Option Addr) (c m : Nat) (w : World) (hB : BytesIn w A m) (hm : m ≤ 9223372036854775807) (hc : m ≤ c) (hc2 : c ≤ 9223372036854775807) :
    Calls Tryd.prog 7 #[.slice A m c] w (DrawnIT w) := by
  have hba : Below w.heap.size w (w.alloc (.cells #[.int .i64 0, .slice none 0 0, .int .i64 0] 25)) := by go_grown
  have hbx := heap_alloc_new w (.cells #[.int .i64 0, .slice none 0 0, .int .i64 0] 25)
  have hBa : BytesIn (w.alloc (.cells #[.int .i64 0, .slice none 0 0, .int .i64 0] 25)) A m := bytes_belowT hB hba
  obtain ⟨W, hW⟩ : ∃ W, w.alloc (.cells #[.int .i64 0, .slice none 0 0, .int .i64 0] 25) = W := ⟨_, rfl⟩
  have HW := hide hW
  rw [hW] at hba hbx hBa
  clear hW hB
  go_enter Tryd.func7, Tryd.ntmps7
  go_upto_region 1 with fail
  rw [HW.out]
  go_wp2_with fail
  refine (open_any A c m W hBa hm hc hc2).mono ?_
  rintro e w1 ⟨rfl, hR1, hb1⟩
  have hb1' := next hba hb1
  have hx1 := (hb1.block w.heap.size (heap_ltI hbx)).trans hbx
  go_wp2_with fail
  refine (l20Item_any W.heap.size 0 5 6 _ hR1 (by omega) (by omega) (by omega) (by omega)).mono ?_
  rintro e w2 ⟨x, A2, c2, rfl, hP2, hT2, hl2, hR2, hg2⟩
  have hXW : w.heap.size < W.heap.size := heap_ltI hbx
  have hb2 : Below w.heap.size w w2 := hb1'.grown hg2 hb1'.size (fun j hj => by injection hj with hj; omega)
  have hx2 : w2.heap[w.heap.size]? = some (.cells #[.int .i64 0, .slice none 0 0, .int .i64 0] 25 (0, 0)) := (hg2.block w.heap.size (heap_ltI hx1) (fun e => by injection e with e; omega)).trans hx1
  obtain ⟨f0, f1, f2⟩ := put3I (u := .int .i64 x.yield) (v := .slice A2 x.parts.length c2) (x := .int .i64 x.marks) hx2
  have hPe := partsAt_put3 (u := .int .i64 x.yield) (v := .slice A2 x.parts.length c2) (x := .int .i64 x.marks) hP2 hT2 hx2
  have hbe := ((hb2.setCell (p := ⟨w.heap.size, 0, none⟩) (Nat.le_refl _) (.int .i64 x.yield)).setCell (p := ⟨w.heap.size, 1, none⟩) (Nat.le_refl _) (.slice A2 x.parts.length c2)).setCell (p := ⟨w.heap.size, 2, none⟩) (Nat.le_refl _) (.int .i64 x.marks)
  obtain ⟨d0, d1, d2⟩ := cells3I hx2
  have g0 := frozen_of_row w2 w.heap.size 0 _ _ hx2
  have g1 := frozen_of_row w2 w.heap.size 1 _ _ hx2
  have g2 := frozen_of_row w2 w.heap.size 2 _ _ hx2
  have HE := hide (And.intro hbe (And.intro f0 (And.intro f1 (And.intro f2 hPe))))
  clear hbe f0 f1 f2 hPe hP2 hT2 hR2 hg2 hb2 hx1 hb1'
  go_wp2_with fail
  obtain ⟨hbe, f0, f1, f2, hPe⟩ := HE.out
  exact bodyPost_ret (v := .agg #[.int .i64 x.yield, .slice A2 x.parts.length c2, .int .i64 x.marks]) (by simp [results, Tryd.results7, go_sem, f0, f1, f2]) rfl ⟨x, A2, c2, rfl, hPe, hl2, hbe⟩

set_option maxRecDepth 100000 in
set_option maxHeartbeats 4000000 in
theorem lawItemText_any (A : Option Addr) (c m : Nat) (w : World) (hB : BytesIn w A m) (hc : m ≤ c) (hc2 : c ≤ 9223372036854775807) (hL : LibAt w) :
    Calls Tryd.prog 3 #[.slice A m c] w fun e w' => e = .returned (.bool true) ∧ Below w.heap.size w w' := by
  by_cases hlen : (1048576 : Int) < m
  · go_enter Tryd.func3, Tryd.ntmps3
    go_wp2_with fail
    go_ret
    exact ⟨rfl, by go_grown⟩
  · go_enter Tryd.func3, Tryd.ntmps3
    go_wp2_with fail
    refine (drawItemText_any A c m w hB (by omega) hc hc2).mono ?_
    rintro e w1 ⟨x, A1, c1, rfl, hP, hl, hb1⟩
    have hl' : x.parts.length ≤ 1048576 := by omega
    have hLb := hL.below hb1
    have hb2 := hb1.alloc hb1.size (.cells #[.int .i64 x.yield, .slice A1 x.parts.length c1, .int .i64 x.marks] 25)
    have hx2 := heap_alloc_new w1 (.cells #[.int .i64 x.yield, .slice A1 x.parts.length c1, .int .i64 x.marks] 25)
    have hBa : Below w1.heap.size w1 (w1.alloc (.cells #[.int .i64 x.yield, .slice A1 x.parts.length c1, .int .i64 x.marks] 25)) := (Below.refl _ _).alloc (Nat.le_refl _) _
    have hP2 := hP.below hBa
    have hL2 := hLb.below hBa
    clear hP hLb hBa hb1
    go_upto_region 4 with fail
    obtain ⟨w2, hw2⟩ : ∃ w2, w1.alloc (.cells #[.int .i64 x.yield, .slice A1 x.parts.length c1, .int .i64 x.marks] 25) = w2 := ⟨_, rfl⟩
    rw [hw2] at hb2 hx2 hP2 hL2 ⊢
    clear hw2
    obtain ⟨T, HT⟩ : ∃ T, Hid (itemTextL x = T) := ⟨_, hide rfl⟩
    obtain ⟨c0, c1', c2⟩ := cells3I hx2
    go_wp2_with fail
    refine (implItemText_any _ _ x _ hP2 hl').mono ?_
    rintro e w3 ⟨rfl, hB3⟩
    rw [HT.out]
    have hb3 := next hb2 hB3
    have hx3 := (hB3.block w1.heap.size (heap_ltI hx2)).trans hx2
    have hP3 := hP2.below hB3
    have hL3 := hL2.below hB3
    clear c0 c1' c2 hx2 hP2 hL2 hB3 hb2
    obtain ⟨c0, c1', c2⟩ := cells3I hx3
    go_wp2_with fail
    refine (specItemText_any _ _ x _ hP3 hl').mono ?_
    rintro e w4 ⟨rfl, hB4⟩
    rw [HT.out]
    have hb4 := next hb3 hB4
    have hx4 := (hB4.block w1.heap.size (heap_ltI hx3)).trans hx3
    have HP4 := hide (hP3.below hB4)
    have HL4 := hide (hL3.below hB4)
    clear c0 c1' c2 hx3 hP3 hL3 hB4 hb3
    cases he : T.isEmpty with
    | true =>
      go_wp2_with fail
      refine (alive_any _).mono ?_
      rintro e w5 ⟨rfl, hB5⟩
      go_wp2_with fail
      go_ret
      exact ⟨rfl, next hb4 hB5⟩
    | false =>
      have hT0 : T ≠ [] := fun e => by rw [e] at he; cases he
      have hok := text_some (x := x) (by rw [HT.out]; exact hT0)
      have hrt := (read_text hok).1
      rw [HT.out] at hrt
      have HRR : Hid (readRes T = (x, true)) := hide (by rw [readRes_yes ⟨hT0, by rw [hrt, HT.out]⟩, hrt])
      have hTl : T.length ≤ 1048576 := by
        rw [← HT.out]
        have h1 := textTo_len hok x.parts.length
        have h2 := decD_len (n := x.marks) (by have := (itemOk_at hok).1; omega)
        have e1 : itemTextL x = textTo x x.parts.length ++ 33 :: decD x.marks := by unfold itemTextL textTo; rw [if_pos hok, List.take_length]; simp
        rw [e1, List.length_append, List.length_cons]
        omega
      have HRI := hide (implReadItem_any T w4 hTl HL4.out)
      clear hok hrt hT0 hTl
      go_wp2_with fail
      refine HRI.out.mono ?_
      rintro e w5 ⟨v, rfl, hPv, hB5⟩
      rw [HRR.out] at hPv ⊢
      have hb5 := next hb4 hB5
      have hx5 := (hB5.block w1.heap.size (heap_ltI hx4)).trans hx4
      have hP5 := HP4.out.below hB5
      have hPv' : PartSl w5 w4.heap.size v x.parts := hPv
      obtain ⟨Av, cv, rfl, hPA⟩ := hPv'.form
      have hb6 := hb5.alloc hb5.size (.cells #[.int .i64 x.yield, .slice Av x.parts.length cv, .int .i64 x.marks] 25)
      have hx6 := (heap_alloc_old w5 (.cells #[.int .i64 x.yield, .slice Av x.parts.length cv, .int .i64 x.marks] 25) (heap_ltI hx5)).trans hx5
      have hy6 := heap_alloc_new w5 (.cells #[.int .i64 x.yield, .slice Av x.parts.length cv, .int .i64 x.marks] 25)
      have hBa : Below w5.heap.size w5 (w5.alloc (.cells #[.int .i64 x.yield, .slice Av x.parts.length cv, .int .i64 x.marks] 25)) := (Below.refl _ _).alloc (Nat.le_refl _) _
      have hP6 := hP5.below hBa
      have hA6 := hPA.below hBa
      clear hPv hPv' hP5 hPA hBa hx5 hB5 hb5
      go_upto_region 10 with fail
      obtain ⟨w6, hw6⟩ : ∃ w6, w5.alloc (.cells #[.int .i64 x.yield, .slice Av x.parts.length cv, .int .i64 x.marks] 25) = w6 := ⟨_, rfl⟩
      rw [hw6] at hb6 hx6 hy6 hP6 hA6 ⊢
      clear hw6
      obtain ⟨k0, k1, k2⟩ := cells3I hx6
      obtain ⟨d0, d1, d2⟩ := cells3I hy6
      go_wp2_with fail
      refine (sameItem_any _ _ _ _ _ _ x.parts _ hA6 hP6 hl').mono ?_
      rintro e w7 ⟨rfl, hB7⟩
      have hb7 := next hb6 hB7
      go_wp2_with fail
      go_ret
      exact ⟨rfl, hb7⟩
end Go.Proofs.YtaelapimchmbcaaDoor
