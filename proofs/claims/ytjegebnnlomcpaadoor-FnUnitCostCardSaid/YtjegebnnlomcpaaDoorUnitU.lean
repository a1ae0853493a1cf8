/- UnitU: the row of costs that UnitCost of the program fills.
   Conditions: none. -/
import Derived.Test.YtjegebnnlomcpaaDoorUnitI
namespace Go.Proofs.YtjegebnnlomcpaaDoor
open Go.RowKit Go.ChangeShapes Go.WideShapes Go.ChangeAt Go.Deep

def fcell (cs : List (Nat × Nat)) (j : Nat) : Value := .int .i64 ((if j % 2 = 0 then (cs.getD (j / 2) (0, 0)).1 else (cs.getD (j / 2) (0, 0)).2 : Nat) : Int)
theorem fcell_0 {cs : List (Nat × Nat)} {i : Nat} {c : Nat × Nat} (h : cs[i]? = some c) : fcell cs (i * 2) = .int .i64 (c.1 : Nat) := by
  unfold fcell
  rw [if_pos (by omega), show i * 2 / 2 = i from by omega, List.getD_eq_getElem?_getD, h]
  rfl
theorem fcell_1 {cs : List (Nat × Nat)} {i : Nat} {c : Nat × Nat} (h : cs[i]? = some c) : fcell cs (i * 2 + 1) = .int .i64 (c.2 : Nat) := by
  unfold fcell
  rw [if_neg (by omega), show (i * 2 + 1) / 2 = i from by omega, List.getD_eq_getElem?_getD, h]
  rfl
theorem row_fracs {w : World} {b n : Nat} {cs : List (Nat × Nat)} (h : w.rowIs b 28 (n * 2) (fcell cs)) (hn : cs.length ≤ n) : FracsAt w (some ⟨b, 0, none⟩) cs := fun i c hc => by
  have hi := (List.getElem?_eq_some_iff.1 hc).1
  refine ⟨b, 0, rfl, World.rowIs.lt h, ?_, ?_⟩
  · rw [Nat.zero_add, World.rowIs.cell h (i := i * 2) (by omega), fcell_0 hc]
  · rw [Nat.zero_add, World.rowIs.cell h (i := i * 2 + 1) (by omega), fcell_1 hc]
/-- The next cost is written, whatever was there. -/
theorem row_put {w : World} {b n : Nat} {cs ds : List (Nat × Nat)} {x : Nat × Nat} (h : w.rowIs b 28 (n * 2) (fcell ds)) (hd : ∀ i, i ≠ cs.length → ds.getD i (0, 0) = cs.getD i (0, 0)) :
    ((w.setCell ⟨b, cs.length * 2, none⟩ (.int .i64 (x.1 : Nat))).setCell ⟨b, cs.length * 2 + 1, none⟩ (.int .i64 (x.2 : Nat))).rowIs b 28 (n * 2) (fcell (cs ++ [x])) := by
  refine ((h.set (cs.length * 2) _).set (cs.length * 2 + 1) _).congr (fun j hj => ?_)
  have hx : (cs ++ [x])[cs.length]? = some x := by simp
  by_cases e1 : j = cs.length * 2 + 1
  · subst e1
    rw [fcell_1 hx]
    simp
  · by_cases e0 : j = cs.length * 2
    · subst e0
      rw [fcell_0 hx]
      simp
    · have hne : j / 2 ≠ cs.length := by omega
      have e : (cs ++ [x]).getD (j / 2) (0, 0) = ds.getD (j / 2) (0, 0) := by
        rw [hd _ hne, List.getD_eq_getElem?_getD, List.getD_eq_getElem?_getD]
        by_cases hl : j / 2 < cs.length
        · rw [List.getElem?_append_left hl]
        · rw [List.getElem?_eq_none (by simp; omega), List.getElem?_eq_none (by omega)]
      unfold fcell
      rw [e]
      simp [e0, e1]

theorem infoFrac : (Tryd.prog.info? 28).map (fun i => (i.zero, i.size, i.bytes)) = some (some (.agg #[.int .i64 0, .int .i64 0]), 2, 16) := by kernel_rfl
theorem make_fracs (n : Nat) (hn : n ≤ 1048576) (w : World) :
    (Instr.makeSlice 48 (.int .i64 (n : Int)) (.int .i64 (n : Int))).run Tryd.prog w = .ok (.slice (some ⟨w.heap.size, 0, none⟩) n n) (w.alloc (.cells (madeCells #[.int .i64 0, .int .i64 0] (n * 2)) 28)) := by
  obtain ⟨i0, hi, hz0, hz1, hz2⟩ := info_parts infoFrac
  have := run_make (P := Tryd.prog) w 48 28 i0 _ Tryd.underlying48 hi hz0 .i64 .i64 n n (by omega) (by omega) (by rw [hz2]; omega) (by omega)
  simpa [hz1, Value.cells] using this
theorem row_made (w : World) (n : Nat) : (w.alloc (.cells (madeCells #[.int .i64 0, .int .i64 0] (n * 2)) 28)).rowIs w.heap.size 28 (n * 2) (fcell []) := by
  refine ⟨_, heap_alloc_new w _, size_madeCells _ _, fun i hi => ?_⟩
  unfold fcell madeCells
  rcases (by omega : i % 2 = 0 ∨ i % 2 = 1) with e | e <;> simp [e, hi]

theorem FracsAt.front {w : World} {A : Option Addr} {cs ds : List (Nat × Nat)} (h : FracsAt w A (cs ++ ds)) : FracsAt w A cs := fun i c hc => h i c (by rw [List.getElem?_append_left (List.getElem?_eq_some_iff.1 hc).1]; exact hc)
theorem row_below {w w' : World} {b n : Nat} {cs : List (Nat × Nat)} (h : w.rowIs b 28 (n * 2) (fcell cs)) (hB : Below w.heap.size w w') : w'.rowIs b 28 (n * 2) (fcell cs) := World.rowIs.of_block h (hB.block _ (World.rowIs.lt h))
theorem getD_front {cs : List (Nat × Nat)} {x : Nat × Nat} : ∀ i, i ≠ cs.length → (cs ++ [x]).getD i (0, 0) = cs.getD i (0, 0) := fun i hi => by
  rw [List.getD_eq_getElem?_getD, List.getD_eq_getElem?_getD]
  by_cases hl : i < cs.length
  · rw [List.getElem?_append_left hl]
  · rw [List.getElem?_eq_none (by simp; omega), List.getElem?_eq_none (by omega)]
theorem unit_bounds {l : List Item} {ps : List Int} {k : Nat} (hI : itemsOk l = true) (hP : rangeOk 20 ps = true) (hl : ps.length = l.length) (hk : k ≤ l.length) (h0 : 0 < k) (h5 : k ≤ 5) : ∃ C T, C ≤ 2099520 ∧ 0 < T ∧ T ≤ 1296 ∧ Hid (UnitsOk C T (unitsN l ps k)) := by
  obtain ⟨k, rfl⟩ : ∃ k', k = k' + 1 := ⟨k - 1, by omega⟩
  obtain ⟨T, h1, h2, h3⟩ := units_ok hI hP hl k hk
  have e6 : 6 ^ k ≤ 6 ^ 4 := Nat.pow_le_pow_right (by omega) (by omega)
  have e18 : 18 ^ k ≤ 18 ^ 4 := Nat.pow_le_pow_right (by omega) (by omega)
  exact ⟨20 * 18 ^ k, T, Nat.le_trans (Nat.mul_le_mul_left 20 e18) (by decide), h1, Nat.le_trans h2 (Nat.le_trans e6 (by decide)), hide h3⟩
/-- What a unit of an item costs, if there is such an item. -/
def unitL (l : List Item) (ps : List Int) (idx : Int) : (Nat × Nat) × Bool := if (pricesOk l ps && inR idx 0 ((l.length : Int) - 1)) = true then ((unitsN l ps (idx.toNat + 1)).getD idx.toNat (0, 0), true) else ((0, 0), false)
theorem unit_no {l : List Item} {ps : List Int} {idx : Int} (h : (pricesOk l ps && inR idx 0 ((l.length : Int) - 1)) = false) : unitL l ps idx = ((0, 0), false) := by unfold unitL; rw [if_neg (by rw [h]; decide)]

set_option maxRecDepth 100000 in
set_option maxHeartbeats 4000000 in
theorem implUnitCost_any (A A' : Option Addr) (c c' : Nat) (l : List Item) (ps : List Int) (idx : Int) (w : World) (hA : ItemsAt w A l) (hl : l.length ≤ 1048576) (hp : ∀ x ∈ l, x.parts.length ≤ 1048576) (hX : IntsAt w A' ps) (hx : ps.length ≤ 1048576) :
    Calls Tryd.prog 5 #[.slice A l.length c, .slice A' ps.length c', .int .i64 idx] w fun e w' =>
      e = .returned (.tuple #[.agg #[.int .i64 ((unitL l ps idx).1.1 : Nat), .int .i64 ((unitL l ps idx).1.2 : Nat)], .bool (unitL l ps idx).2]) ∧ Below w.heap.size w w' := by
  have HP := hide hp
  clear hp
  have hba : Below w.heap.size w (w.alloc (.cells #[.int .i64 0, .int .i64 0] 28)) := by go_grown
  have HA0 := hide (hA.below hba)
  have HX0 := hide (hX.below hba)
  have HAw := hide hA
  have HXw := hide hX
  have HBX0 : Hid ((w.alloc (.cells #[.int .i64 0, .int .i64 0] 28)).heap[w.heap.size]? = some (.cells #[.int .i64 0, .int .i64 0] 28 (0, 0))) := hide (heap_alloc_new w _)
  clear hA hX
  obtain ⟨u, HU⟩ : ∃ u, Hid (unitL l ps idx = u) := ⟨_, hide rfl⟩
  rw [HU.out]
  go_enter Tryd.func5, Tryd.ntmps5
  go_wp2_with fail
  refine (implPricesValid_any _ _ _ _ _ _ _ HA0.out hl HP.out HX0.out hx).mono ?_
  rintro e w1 ⟨rfl, hB1⟩
  have hb1 := next hba hB1
  have HBX1 := hide ((hB1.block w.heap.size (by simp)).trans HBX0.out)
  have c0 : w1.cell? ⟨w.heap.size, 0, none⟩ = some (.int .i64 0) := by rw [cell_of_row _ _ 0 _ _ _ HBX1.out]; rfl
  have c1 : w1.cell? ⟨w.heap.size, 1, none⟩ = some (.int .i64 0) := by rw [cell_of_row _ _ 1 _ _ _ HBX1.out]; rfl
  have g0 := frozen_of_row w1 w.heap.size 0 _ _ HBX1.out
  have g1 := frozen_of_row w1 w.heap.size 1 _ _ HBX1.out
  have hbe := (hb1.setCell (p := ⟨w.heap.size, 0, none⟩) (Nat.le_refl _) (.int .i64 0)).setCell (p := ⟨w.heap.size, 1, none⟩) (Nat.le_refl _) (.int .i64 0)
  obtain ⟨f0, f1⟩ := frac_set (u := .int .i64 0) (v := .int .i64 0) HBX1.out
  have HE := hide (And.intro hbe (And.intro f0 f1))
  clear hbe f0 f1
  cases hok : pricesOk l ps with
  | false =>
    have hu : u = ((0, 0), false) := by rw [← HU.out]; exact unit_no (by rw [hok]; rfl)
    subst hu
    have HOK := hide hok
    clear hok
    go_wp2_with fail
    obtain ⟨hbe, f0, f1⟩ := HE.out
    exact bodyPost_ret (v := .tuple #[.agg #[.int .i64 0, .int .i64 0], .bool false]) (by simp [results, Tryd.results5, go_sem, f0, f1]) rfl ⟨rfl, hbe⟩
  | true =>
    have HOK := hide hok
    clear hok
    have h6 : l.length ≤ 6 := by
      have := HOK.out
      unfold pricesOk itemsOk at this
      simp only [Bool.and_eq_true, decide_eq_true_eq] at this
      exact this.1.1
    have HIO : Hid (itemsOk l = true ∧ rangeOk 20 ps = true ∧ ps.length = l.length) := hide (by
      have := HOK.out
      unfold pricesOk at this
      simp only [Bool.and_eq_true, decide_eq_true_eq] at this
      exact ⟨this.1, this.2.2, by omega⟩)
    obtain ⟨β, hβ⟩ : ∃ β, inR idx 0 ((l.length : Int) - 1) = β := ⟨_, rfl⟩
    have HIR := hide (fun W => inRange_is idx 0 ((l.length : Int) - 1) β (hide hβ) W)
    have HBT := hide hβ
    clear hβ
    go_wp2_with fail
    refine (HIR.out w1).mono ?_
    rintro e w2 ⟨rfl, rfl⟩
    cases β with
    | false =>
      have hu : u = ((0, 0), false) := by rw [← HU.out]; exact unit_no (by rw [HBT.out]; simp)
      subst hu
      go_wp2_with fail
      obtain ⟨hbe, f0, f1⟩ := HE.out
      exact bodyPost_ret (v := .tuple #[.agg #[.int .i64 0, .int .i64 0], .bool false]) (by simp [results, Tryd.results5, go_sem, f0, f1]) rfl ⟨rfl, hbe⟩
    | true =>
      have hir := inR_iff.1 HBT.out
      obtain ⟨q, rfl⟩ : ∃ q : Nat, idx = q := ⟨idx.toNat, by omega⟩
      obtain ⟨n, HN⟩ : ∃ n, Hid (n = q + 1) := ⟨_, hide rfl⟩
      have hn6 : n ≤ 6 := by rw [HN.out]; omega
      have hnl : n ≤ l.length := by rw [HN.out]; omega
      have hwn : IntKind.i64.wrap ((q : Int) + 1) = (n : Int) := by rw [HN.out]; exact IntWalk.i64_in _ (by omega)
      have hmk := make_fracs n (by omega)
      have HUU : Hid (u = ((unitsN l ps n).getD q (0, 0), true)) := hide (by rw [← HU.out]; unfold unitL; rw [HOK.out, HBT.out, if_pos (by rfl), Int.toNat_natCast, HN.out])
      have HR0 := hide (row_made w1 n)
      have HB2 : Hid (Below w.heap.size w (w1.alloc (.cells (madeCells #[.int .i64 0, .int .i64 0] (n * 2)) 28))) := hide (hb1.alloc hb1.size _)
      have hzw : w.heap.size < w1.heap.size := (Array.getElem?_eq_some_iff.1 HBX1.out).1
      have HBX2 : Hid ((w1.alloc (.cells (madeCells #[.int .i64 0, .int .i64 0] (n * 2)) 28)).heap[w.heap.size]? = some (.cells #[.int .i64 0, .int .i64 0] 28 (0, 0))) := hide ((heap_alloc_old w1 _ hzw).trans HBX1.out)
      have HA1 := hide (HA0.out.below hB1)
      have HX1 := hide (HX0.out.below hB1)
      clear c0 c1 g0 g1 HE hir HBX0 HBX1
      go_wp2_with fail
      go_loopw [28] (fun iv wr => ∃ k : Nat, k ≤ n ∧ iv = .int .i64 k ∧ Hid (wr.rowIs w1.heap.size 28 (n * 2) (fcell (unitsN l ps k))) ∧ Hid (wr.heap[w.heap.size]? = some (.cells #[.int .i64 0, .int .i64 0] 28 (0, 0))) ∧ Below w.heap.size w wr) (fun iv _ => n - (intOf iv).toNat)
      case atStart => exact ⟨0, Nat.zero_le _, rfl, HR0, HBX2, HB2.out⟩
      case round =>
        clear HR0 HBX2 HB2 hmk
        obtain ⟨k, hk, rfl, HR, HBX, hb⟩ := hrel
        by_cases hkn : k < n
        · have hk0 : (0 : Int) ≤ k := by omega
          have hk1 : (k : Int) < n := by omega
          have hk2 : (k : Int) < l.length := by omega
          have hk3 : (k : Int) < ps.length := by rw [HIO.out.2.2]; exact hk2
          obtain ⟨p, hp⟩ : ∃ p, ps[k]? = some p := ⟨_, List.getElem?_eq_getElem (by rw [HIO.out.2.2]; omega)⟩
          obtain ⟨t, ht⟩ : ∃ t, l[k]? = some t := ⟨_, List.getElem?_eq_getElem (by omega)⟩
          have hpr := rangeOk_at HIO.out.2.1 hp
          obtain ⟨pn, rfl⟩ : ∃ pn : Nat, p = pn := ⟨p.toNat, by omega⟩
          have HUN : Hid (unitsN l ps (k + 1) = unitsN l ps k ++ [unitOf (unitsN l ps k) t (pn : Int)]) := hide (by rw [unitsN, List.getD_eq_getElem?_getD, List.getD_eq_getElem?_getD, ht, hp]; rfl)
          obtain ⟨pb, po, rfl, hpl, hpc⟩ := (HXw.out.below hb) k pn hp
          have hrow0 := row_put (x := (pn, 1)) HR.out (fun _ _ => rfl)
          rw [unitsN_len] at hrow0
          have hcA := World.rowIs.cell HR.out (i := k * 2) (by omega)
          have hcB := World.rowIs.cell HR.out (i := k * 2 + 1) (by omega)
          have hfA := World.rowIs.frozen HR.out (k * 2)
          have hfB := World.rowIs.frozen HR.out (k * 2 + 1)
          have hbW := (hb.setCell (p := ⟨w1.heap.size, k * 2, none⟩) (by simp; omega) (.int .i64 (pn : Int))).setCell (p := ⟨w1.heap.size, k * 2 + 1, none⟩) (by simp; omega) (.int .i64 1)
          have hbx : ((wr.setCell ⟨w1.heap.size, k * 2, none⟩ (.int .i64 (pn : Int))).setCell ⟨w1.heap.size, k * 2 + 1, none⟩ (.int .i64 1)).heap[w.heap.size]? = some (.cells #[.int .i64 0, .int .i64 0] 28 (0, 0)) := by
            rw [heap_setCell_other _ ⟨w1.heap.size, k * 2 + 1, none⟩ _ _ (by simp; omega), heap_setCell_other _ ⟨w1.heap.size, k * 2, none⟩ _ _ (by simp; omega)]; exact HBX.out
          have HWW := hide (And.intro hrow0 (And.intro hbW hbx))
          have HTT := hide ht
          clear hrow0 hbW hbx ht hp hpr HBX HR
          go_upto_region 8 with fail
          obtain ⟨W, hW⟩ : ∃ W, (wr.setCell ⟨w1.heap.size, k * 2, none⟩ (.int .i64 (pn : Int))).setCell ⟨w1.heap.size, k * 2 + 1, none⟩ (.int .i64 1) = W := ⟨_, rfl⟩
          obtain ⟨hrow, hbW, hbx⟩ := HWW.out
          have hrow : W.rowIs w1.heap.size 28 (n * 2) (fcell (unitsN l ps k ++ [(pn, 1)])) := by rw [← hW]; exact hrow
          rw [hW] at hbW hbx ⊢
          clear hW HWW hcA hcB hfA hfB hpc hpl hb
          have HRW := hide hrow
          have HBX := hide hbx
          clear hrow hbx
          obtain ⟨tb, too, Aq, cq, rfl, htl, t0, t1, t2, htp⟩ := (HAw.out.below hbW) k t HTT.out
          obtain ⟨h1, h2, hy0, hy1, hpl3, hyp, hpo⟩ := itemsOk_at HIO.out.1 HTT.out
          have HTP := hide htp
          have HPO := hide (And.intro hyp hpo)
          clear htp hyp hpo h1 h2
          obtain ⟨y, hy⟩ : ∃ y, t.yield = y := ⟨_, rfl⟩
          rw [hy] at t0 hy0 hy1 HPO
          by_cases hyy : 0 < y
          · have HMD := hide (fun W9 => isMade_is Aq cq t.parts.length y t.marks true (hide (decide_eq_true hyy)) W9)
            obtain ⟨C, T, hC, hT0, hT, HUO⟩ : ∃ C T, C ≤ 2099520 ∧ 0 < T ∧ T ≤ 1296 ∧ Hid (UnitsOk C T (unitsN l ps k)) := unit_bounds HIO.out.1 HIO.out.2.1 HIO.out.2.2 (by omega) (by
              rcases Nat.eq_zero_or_pos k with e | e
              · exfalso
                have : t.parts = [] := by
                  cases e9 : t.parts with
                  | nil => rfl
                  | cons q r =>
                    have := HPO.out.2 q (by rw [e9]; simp)
                    omega
                have := HPO.out.1.2 this
                omega
              · exact e) (by omega)
            have HBS := hide (fun W9 (hP9 : PartsAt W9 Aq t.parts) (hF9 : FracsAt W9 (some ⟨w1.heap.size, 0, none⟩) (unitsN l ps k)) => batchShare_any Aq (some ⟨w1.heap.size, 0, none⟩) t.parts.length cq n n y t.marks t.parts (unitsN l ps k) C T W9 hP9 rfl hF9 (by rw [unitsN_len]; exact hk) HUO hC hT0 hT hyy hy1 hpl3 (hide (fun q hq => by rw [unitsN_len]; exact HPO.out.2 q hq)))
            go_wp2_with fail
            refine (HMD.out W).mono ?_
            rintro e W3 ⟨rfl, hB3⟩
            have hb3 := hbW.trans (hB3.mono hbW.size)
            have HR3 := hide (row_below HRW.out hB3)
            have HBX3 := hide ((hB3.block w.heap.size (Array.getElem?_eq_some_iff.1 HBX.out).1).trans HBX.out)
            have s0 := (hB3.cell (Nat.lt_of_lt_of_le htl (Nat.le_refl _))).trans t0
            have s1 := (hB3.cell (Nat.lt_of_lt_of_le htl (Nat.le_refl _))).trans t1
            have s2 := (hB3.cell (Nat.lt_of_lt_of_le htl (Nat.le_refl _))).trans t2
            have HB9 := hide (HBS.out W3 (HTP.out.below hB3) (row_fracs (cs := unitsN l ps k ++ [(pn, 1)]) HR3.out (by rw [List.length_append, unitsN_len]; exact hkn)).front)
            clear t0 t1 t2 hB3 htl HRW HBX
            go_wp2_with fail
            refine HB9.out.mono ?_
            rintro e W4 ⟨rfl, hB4⟩
            have hb4 := hb3.trans (hB4.mono hb3.size)
            have HR4 := hide (row_below HR3.out hB4)
            have HBX4 := hide ((hB4.block w.heap.size (Array.getElem?_eq_some_iff.1 HBX3.out).1).trans HBX3.out)
            have HUO2 : Hid (lowN (sumI (0, 1) (partsN (unitsN l ps k) t.parts)).1 ((sumI (0, 1) (partsN (unitsN l ps k) t.parts)).2 * y.toNat) = unitOf (unitsN l ps k) t (pn : Int)) := hide (by unfold unitOf; rw [hy, if_pos hyy])
            rw [HUO2.out]
            obtain ⟨x, hx9⟩ : ∃ x, unitOf (unitsN l ps k) t (pn : Int) = x := ⟨_, rfl⟩
            rw [hx9] at HUN ⊢
            have hrow4 := row_put (x := x) (cs := unitsN l ps k) HR4.out getD_front
            rw [unitsN_len, ← HUN.out] at hrow4
            have hcA := World.rowIs.cell HR4.out (i := k * 2) (by omega)
            have hcB := World.rowIs.cell HR4.out (i := k * 2 + 1) (by omega)
            have hfA := World.rowIs.frozen HR4.out (k * 2)
            have hfB := World.rowIs.frozen HR4.out (k * 2 + 1)
            have hbE := (hb4.setCell (p := ⟨w1.heap.size, k * 2, none⟩) (by simp; omega) (.int .i64 (x.1 : Nat))).setCell (p := ⟨w1.heap.size, k * 2 + 1, none⟩) (by simp; omega) (.int .i64 (x.2 : Nat))
            have hbxE : ((W4.setCell ⟨w1.heap.size, k * 2, none⟩ (.int .i64 (x.1 : Nat))).setCell ⟨w1.heap.size, k * 2 + 1, none⟩ (.int .i64 (x.2 : Nat))).heap[w.heap.size]? = some (.cells #[.int .i64 0, .int .i64 0] 28 (0, 0)) := by
              rw [heap_setCell_other _ ⟨w1.heap.size, k * 2 + 1, none⟩ _ _ (by simp; omega), heap_setCell_other _ ⟨w1.heap.size, k * 2, none⟩ _ _ (by simp; omega)]; exact HBX4.out
            have HEE := hide (And.intro hrow4 (And.intro hbxE hbE))
            clear hrow4 hbxE hbE hb4 hb3 hbW s0 s1 s2 HR4 HR3 HBX4 HBX3 HB9 HBS HMD hx9 hB4
            go_wp2_with fail
            go_roundw
            case rel => exact ⟨k + 1, hkn, by go_num, hide HEE.out.1, hide HEE.out.2.1, HEE.out.2.2⟩
            case measure => simp [intOf]; omega
          · have HMD := hide (fun W9 => isMade_is Aq cq t.parts.length y t.marks false (hide (decide_eq_false hyy)) W9)
            have hUN2 : unitsN l ps (k + 1) = unitsN l ps k ++ [(pn, 1)] := by rw [HUN.out]; unfold unitOf; rw [hy, if_neg hyy, Int.toNat_natCast]
            go_wp2_with fail
            refine (HMD.out W).mono ?_
            rintro e W3 ⟨rfl, hB3⟩
            have HR3 := hide (row_below HRW.out hB3)
            rw [← hUN2] at HR3
            have HBX3 := hide ((hB3.block w.heap.size (Array.getElem?_eq_some_iff.1 HBX.out).1).trans HBX.out)
            have hb3 := hbW.trans (hB3.mono hbW.size)
            clear hUN2
            go_wp2_with fail
            go_roundw
            case rel => exact ⟨k + 1, hkn, by go_num, HR3, HBX3, hb3⟩
            case measure => simp [intOf]; omega
        · obtain rfl : k = n := by omega
          have hqn : q < k := by rw [HN.out]; omega
          obtain ⟨x, hx9⟩ : ∃ x, (unitsN l ps k)[q]? = some x := ⟨_, List.getElem?_eq_getElem (by rw [unitsN_len]; exact hqn)⟩
          have hu : u = (x, true) := by rw [HUU.out, List.getD_eq_getElem?_getD, hx9]; rfl
          subst hu
          obtain ⟨b9, o9, e9, -, r0, r1⟩ := row_fracs HR.out (by rw [unitsN_len]; exact Nat.le_refl _) q x hx9
          injection e9 with e9
          injection e9 with e91 e92
          subst e91 e92
          rw [Nat.zero_add] at r0 r1
          have hq0 : (0 : Int) ≤ q := by omega
          have hq1 : (q : Int) < k := by omega
          have c0 : wr.cell? ⟨w.heap.size, 0, none⟩ = some (.int .i64 0) := by rw [cell_of_row _ _ 0 _ _ _ HBX.out]; rfl
          have c1 : wr.cell? ⟨w.heap.size, 1, none⟩ = some (.int .i64 0) := by rw [cell_of_row _ _ 1 _ _ _ HBX.out]; rfl
          have g0 := frozen_of_row wr w.heap.size 0 _ _ HBX.out
          have g1 := frozen_of_row wr w.heap.size 1 _ _ HBX.out
          have hbe := (hb.setCell (p := ⟨w.heap.size, 0, none⟩) (Nat.le_refl _) (.int .i64 (x.1 : Nat))).setCell (p := ⟨w.heap.size, 1, none⟩) (Nat.le_refl _) (.int .i64 (x.2 : Nat))
          obtain ⟨f0, f1⟩ := frac_set (u := .int .i64 (x.1 : Nat)) (v := .int .i64 (x.2 : Nat)) HBX.out
          have HE := hide (And.intro hbe (And.intro f0 f1))
          clear hbe f0 f1 hx9
          go_wp2_with fail
          obtain ⟨hbe, f0, f1⟩ := HE.out
          exact bodyPost_ret (v := .tuple #[.agg #[.int .i64 (x.1 : Nat), .int .i64 (x.2 : Nat)], .bool true]) (by simp [results, Tryd.results5, go_sem, f0, f1]) rfl ⟨rfl, hbe⟩
end Go.Proofs.YtjegebnnlomcpaaDoor
