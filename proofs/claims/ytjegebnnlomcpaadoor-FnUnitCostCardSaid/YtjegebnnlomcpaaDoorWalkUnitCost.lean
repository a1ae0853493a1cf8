/- For all drawn bytes the law of UnitCost answers true, and its argument reads as it did.
   Conditions: none. -/
import Derived.Test.YtjegebnnlomcpaaDoorLawKit
import Derived.Test.YtjegebnnlomcpaaDoorDrawUC
import Derived.Test.YtjegebnnlomcpaaDoorUnitSp
import Derived.Test.YtjegebnnlomcpaaDoorUnitDual
import Derived.Test.YtjegebnnlomcpaaDoorPlanLst
import Derived.Test.YtjegebnnlomcpaaDoorCostMath
namespace Go.Proofs.YtjegebnnlomcpaaDoor
open Go.RowKit Go.ChangeShapes Go.WideShapes Go.ChangeAt Go.Deep

theorem unitL_no {l : List Item} {ps : List Int} {idx : Int} {p : Nat × Nat} (h : unitL l ps idx = (p, false)) : p = (0, 0) := by
  unfold unitL at h
  split at h
  · injection h with _ h; cases h
  · injection h with h _; exact h.symm
theorem unitL_yes {l : List Item} {ps : List Int} {idx : Int} {p : Nat × Nat} (h : unitL l ps idx = (p, true)) : ∃ q : Nat, idx = q ∧ q < l.length ∧ pricesOk l ps = true ∧ (unitsN l ps (q + 1))[q]? = some p := by
  unfold unitL at h
  split at h
  · rename_i hc
    simp only [Bool.and_eq_true, inR_iff] at hc
    injection h with h _
    refine ⟨idx.toNat, by omega, by omega, hc.1, ?_⟩
    have hl : idx.toNat < (unitsN l ps (idx.toNat + 1)).length := by rw [unitsN_len]; omega
    rw [List.getD_eq_getElem?_getD, List.getElem?_eq_getElem hl] at h
    rw [List.getElem?_eq_getElem hl]
    exact congrArg some h
  · injection h with _ h; cases h
/-- What is bought costs its price; how great all get. -/
theorem unit_fits {l : List Item} {ps : List Int} {q : Nat} {c : Nat × Nat} (hP : pricesOk l ps = true) (hq : q < l.length) (hc : (unitsN l ps (q + 1))[q]? = some c) :
    0 < c.2 ∧ c.2 ≤ 7776 ∧ c.1 ≤ 293865615360 ∧ ∃ t p, l[q]? = some t ∧ ps[q]? = some p ∧ 0 ≤ p ∧ p ≤ 20 ∧ (¬ 0 < t.yield → c = (p.toNat, 1)) := by
  obtain ⟨hI, hpl, hpr⟩ := pricesOk_at hP
  have h6 := itemsOk_len hI
  obtain ⟨T, hT0, hT1, hU⟩ := units_ok hI hpr (by omega) q (by omega)
  obtain ⟨h1, h2, h3⟩ := hU c (List.mem_of_getElem? hc)
  have e6 : 6 ^ q ≤ 6 ^ 5 := Nat.pow_le_pow_right (by omega) (by omega)
  have e18 : 20 * 18 ^ q ≤ 37791360 := Nat.le_trans (Nat.mul_le_mul_left 20 (Nat.pow_le_pow_right (by omega) (show q ≤ 5 by omega))) (by decide)
  have hT2 : T ≤ 7776 := Nat.le_trans hT1 (Nat.le_trans e6 (by decide))
  have h4 : c.2 ≤ 7776 := Nat.le_trans (Nat.le_of_dvd hT0 h2) hT2
  have hx := List.getElem?_eq_getElem hq
  have hp := List.getElem?_eq_getElem (show q < ps.length by omega)
  have hr := rangeOk_at hpr hp
  refine ⟨h1, h4, Nat.le_trans h3 (Nat.le_trans (Nat.mul_le_mul e18 h4) (by decide)), _, _, hx, hp, hr.1, hr.2, fun hy => ?_⟩
  rw [unitsN_get l ps _ (Nat.lt_succ_self q), List.getD_eq_getElem?_getD, List.getD_eq_getElem?_getD, hx, hp] at hc
  injection hc with hc
  rw [← hc]
  unfold unitOf
  exact if_neg hy
def wantN (l : List Item) (q n : Nat) : List Int := tab l.length (fun j => if j = q then (n : Int) else 0)
def noneN (l : List Item) : List Int := tab l.length (fun _ => 0)
theorem tab_getU {n : Nat} {f : Nat → Int} (j : Nat) : (tab n f).getD j 0 = if j < n then f j else 0 := by
  by_cases h : j < n
  · rw [tab_getDp h, if_pos h]
  · rw [getD_zero (by rw [tab_len]; omega), if_neg h]
theorem tab_rngU {B : Int} {n : Nat} {f : Nat → Int} (h : ∀ j, j < n → 0 ≤ f j ∧ f j ≤ B) : rangeOk B (tab n f) = true := by
  unfold rangeOk
  rw [List.all_eq_true]
  intro x hx
  obtain ⟨j, hj, rfl⟩ := List.mem_map.1 hx
  exact inR_iff.2 (h j (List.mem_range.1 hj))
theorem wantN_ok {l : List Item} {q n : Nat} (hI : itemsOk l = true) (hn : n ≤ 7) : amountsOk l (wantN l q n) (noneN l) = true := by
  unfold amountsOk amtOk wantN noneN
  rw [hI, tab_len, tab_len, decide_eq_true rfl, tab_rngU (B := 50) (fun j _ => by split <;> omega), tab_rngU (B := 50) (fun j _ => by omega)]
  rfl
/-- What n units cost by the least plan is at least n times what one costs. -/
theorem unit_plan {l : List Item} {ps : List Int} {q n : Nat} {c : Nat × Nat} (hP : pricesOk l ps = true) (hq : q < l.length) (hc : (unitsN l ps (q + 1))[q]? = some c) (hn : n ≤ 7) :
    amountsOk l (wantN l q n) (noneN l) = true ∧ (lstL l (wantN l q n) (noneN l)).length = l.length ∧ 0 ≤ costL l ps (lstL l (wantN l q n) (noneN l)) ∧ costL l ps (lstL l (wantN l q n) (noneN l)) ≤ 1199999880 ∧ ((n * c.1 : Nat) : Int) ≤ costL l ps (lstL l (wantN l q n) (noneN l)) * c.2 := by
  obtain ⟨hI, hpl, hpr⟩ := pricesOk_at hP
  have hA := wantN_ok (q := q) hI hn
  have hd := (plan_dual hP hA (fun i => by unfold noneN; rw [tab_getU]; split <;> rfl) hq (by unfold wantN; rw [tab_getU, if_pos hq, if_pos rfl]) (fun j hj => by unfold wantN; rw [tab_getU, if_neg hj]; split <;> rfl) hc).2
  have h6 := itemsOk_len hI
  have hcost : costL l ps (lstL l (wantN l q n) (noneN l)) = costTo l (lstL l (wantN l q n) (noneN l)) ps l.length := by
    unfold costL
    rw [hP, decide_eq_true (by rw [lstL_len]), lstL_range hA]
    rfl
  have hr := costTo_rng (lstL_range hA) hpr l.length (l := l)
  rw [← hcost] at hr
  exact ⟨hA, lstL_len _ _ _, hr.1, by omega, hd⟩

set_option maxRecDepth 100000 in
set_option maxHeartbeats 4000000 in
theorem lawUnitCost_any (A : Option Addr) (c m : Nat) (w : World) (hB : BytesIn w A m) (hc : m ≤ c) (hc2 : c ≤ 9223372036854775807) :
    Calls Tryd.prog 3 #[.slice A m c] w fun e w' => e = .returned (.bool true) ∧ Below w.heap.size w w' := by
  by_cases hlen : (1048576 : Int) < m
  · go_enter Tryd.func3, Tryd.ntmps3
    go_wp2_with fail
    go_ret
    exact ⟨rfl, by go_grown⟩
  · go_enter Tryd.func3, Tryd.ntmps3
    go_wp2_with fail
    refine (drawUnitCost_any A c m w hB (by omega) hc hc2).mono ?_
    rintro e w1 ⟨l, A1, c1, xs, go, c2, idx, rfl, hI, hl, hp, hX, hxl, hb1⟩
    have hl' : l.length ≤ 1048576 := by omega
    have hx' : xs.length ≤ 1048576 := by omega
    have HP : Hid (∀ x ∈ l, x.parts.length ≤ 1048576) := hide (fun x hx => by have := hp x hx; omega)
    have HI1 := hide hI
    have HX1 := hide hX
    obtain ⟨⟨⟨a, b⟩, β⟩, HU⟩ : ∃ u, Hid (unitL l xs idx = u) := ⟨_, hide rfl⟩
    have hββ : (β != β) = false := by cases β <;> rfl
    clear hp hI hX
    go_wp2_with fail
    refine (implUnitCost_any _ _ _ _ _ _ _ _ HI1.out hl' HP.out HX1.out hx').mono ?_
    rintro e w2 ⟨rfl, hB2⟩
    rw [HU.out]
    have hb2a := hB2.alloc hB2.size (.cells #[.int .i64 (a : Nat), .int .i64 (b : Nat)] 28)
    have hx2 := heap_alloc_new w2 (.cells #[.int .i64 (a : Nat), .int .i64 (b : Nat)] 28)
    go_wp2_with fail
    refine (specUnitCost_any _ _ _ _ _ _ _ _ (HI1.out.below hb2a) hl' HP.out (HX1.out.below hb2a) hx').mono ?_
    rintro e w3 ⟨rfl, hB3⟩
    rw [HU.out]
    have hb3 := next hb2a hB3
    have hx3 := (hB3.block w2.heap.size (heap_ltU hx2)).trans hx2
    have hb4 := hb3.alloc hb3.size (.cells #[.int .i64 (a : Nat), .int .i64 (b : Nat)] 28)
    have hx4 := (heap_alloc_old w3 (.cells #[.int .i64 (a : Nat), .int .i64 (b : Nat)] 28) (heap_ltU hx3)).trans hx3
    have hy4 := heap_alloc_new w3 (.cells #[.int .i64 (a : Nat), .int .i64 (b : Nat)] 28)
    clear hx2 hx3 hB2 hB3 hb2a hb3
    go_upto_region 6 with fail
    obtain ⟨w4, hw4⟩ : ∃ w4, w3.alloc (.cells #[.int .i64 (a : Nat), .int .i64 (b : Nat)] 28) = w4 := ⟨_, rfl⟩
    rw [hw4] at hx4 hy4 hb4 ⊢
    clear hw4
    have k0 : w4.cell? ⟨w2.heap.size, 0, none⟩ = some (.int .i64 (a : Nat)) := by rw [cell_of_row _ _ 0 _ _ _ hx4]; rfl
    have k1 : w4.cell? ⟨w2.heap.size, 1, none⟩ = some (.int .i64 (b : Nat)) := by rw [cell_of_row _ _ 1 _ _ _ hx4]; rfl
    have k2 : w4.cell? ⟨w3.heap.size, 0, none⟩ = some (.int .i64 (a : Nat)) := by rw [cell_of_row _ _ 0 _ _ _ hy4]; rfl
    have k3 : w4.cell? ⟨w3.heap.size, 1, none⟩ = some (.int .i64 (b : Nat)) := by rw [cell_of_row _ _ 1 _ _ _ hy4]; rfl
    have HX4 := hide hx4
    clear hx4 hy4
    cases β with
    | false =>
      have hab := unitL_no HU.out
      injection hab with ha hb
      subst ha hb
      go_wp2_with fail
      refine (alive_any _).mono ?_
      rintro e w5 ⟨rfl, hB5⟩
      go_wp2_with fail
      go_ret
      exact ⟨rfl, hb1.trans ((next hb4 hB5).mono hb1.size)⟩
    | true =>
      obtain ⟨q, rfl, hq, hP, hc⟩ := unitL_yes HU.out
      obtain ⟨f1, f2, f3, t, p, ht, hp, p0, p1, f4⟩ := unit_fits hP hq hc
      have HPL := hide (fun n (hn : n ≤ 7) => unit_plan hP hq hc hn)
      have f1' : 0 < b := f1
      have f2' : b ≤ 7776 := f2
      have f3' : a ≤ 293865615360 := f3
      have HF := hide f4
      have HT := hide ht
      have HQ := hide hp
      have hmk := make_ints l.length hl'
      have hq0 : (0 : Int) ≤ q := by omega
      have hql : (q : Int) < l.length := by omega
      clear f1 f2 f3 f4 ht hp hP hc
      go_wp2_with fail
      go_loopw [10] (fun iv wr => ∃ n : Nat, n ≤ 10 ∧ iv = .int .i64 n ∧ Hid (wr.heap[w2.heap.size]? = some (.cells #[.int .i64 (a : Nat), .int .i64 (b : Nat)] 28 (0, 0))) ∧ Below w1.heap.size w1 wr) (fun iv _ => 10 - (intOf iv).toNat)
      case atStart => exact ⟨1, by omega, rfl, HX4, hb4⟩
      case round =>
        clear HX4 hb4 k0 k1 k2 k3
        obtain ⟨n, hn, rfl, HXR, hb⟩ := hrel
        by_cases hn7 : n ≤ 7
        · obtain ⟨hA, hL, hK0, hK1, hK2⟩ := HPL.out n hn7
          have hn7' : (n : Int) ≤ 7 := by omega
          go_upto_region 14 with fail
          obtain ⟨W1, hW1⟩ : ∃ W1, wr.alloc (.cells (madeCells #[.int .i64 0] l.length) 3) = W1 := ⟨_, rfl⟩
          have hr1 : W1.rowIs wr.heap.size 3 l.length (fun _ => .int .i64 0) := by rw [← hW1]; exact World.rowIs_made _ _ _ _
          have hbW1 : Below wr.heap.size wr W1 := by rw [← hW1]; exact (Below.refl _ _).alloc (Nat.le_refl _) _
          rw [hW1]
          clear hW1
          have hcA := World.rowIs.cell hr1 (i := q) hq
          have hfA := World.rowIs.frozen hr1 q
          have hr2 := hr1.set q (.int .i64 (n : Int))
          have hbW2 := hbW1.setCell (p := ⟨wr.heap.size, q, none⟩) (Nat.le_refl _) (.int .i64 (n : Int))
          go_upto_region 15 with fail
          obtain ⟨W2, hW2⟩ : ∃ W2, W1.setCell ⟨wr.heap.size, q, none⟩ (.int .i64 (n : Int)) = W2 := ⟨_, rfl⟩
          rw [hW2] at hr2 hbW2 ⊢
          clear hW2 hcA hfA
          have hOW : OwnInts W2 wr.heap.size (wantN l q n) := by
            unfold OwnInts wantN
            rw [tab_len]
            exact hr2.congr (fun i hi => by rw [tab_getDp hi]; split <;> rfl)
          have hbW3 : Below W2.heap.size W2 (W2.alloc (.cells (madeCells #[.int .i64 0] l.length) 3)) := (Below.refl _ _).alloc (Nat.le_refl _) _
          have hOS : OwnInts (W2.alloc (.cells (madeCells #[.int .i64 0] l.length) 3)) W2.heap.size (noneN l) := by
            unfold OwnInts noneN
            rw [tab_len]
            exact (World.rowIs_made _ _ _ _).congr (fun i hi => by rw [tab_getDp hi])
          have hb3' := hb.trans (hbW2.mono hb.size)
          have hb3 := hb3'.trans (hbW3.mono hb3'.size)
          have hPL := implPlanLeast_any A1 (some ⟨wr.heap.size, 0, none⟩) (some ⟨W2.heap.size, 0, none⟩) c1 l.length l.length l (wantN l q n) (noneN l) _ (HI1.out.below hb3) hl' HP.out (hOW.below hbW3).at_ (by unfold wantN; rw [tab_len]; exact hl') hOS.at_ (by unfold noneN; rw [tab_len]; exact hl')
          rw [show (wantN l q n).length = l.length from tab_len _ _, show (noneN l).length = l.length from tab_len _ _] at hPL
          have HBX3 := hide (((hbW2.trans (hbW3.mono hbW2.size)).block w2.heap.size (heap_ltU HXR.out)).trans HXR.out)
          go_wp2_with fail
          refine hPL.mono ?_
          rintro e w5 ⟨v, u, rfl, hV, hU, -, hB5⟩
          have hb5 := next hb3 hB5
          have hx5 := (hB5.block w2.heap.size (heap_ltU HBX3.out)).trans HBX3.out
          clear hPL hOW hOS hbW3 hbW2 hbW1 hr1 hr2 hb3 hb3' HBX3
          rw [hA]
          unfold planRunsL at hV
          unfold planLeftL at hU
          rw [hA, if_pos rfl] at hV hU
          obtain ⟨rs, hrs⟩ : ∃ rs, lstL l (wantN l q n) (noneN l) = rs := ⟨_, rfl⟩
          obtain ⟨lf, hlf⟩ : ∃ lf, leastLeft l (wantN l q n) (noneN l) = lf := ⟨_, rfl⟩
          rw [hrs] at hV hL hK0 hK1 hK2
          rw [hlf] at hU
          have HL := hide hL
          clear hrs hlf hA hL
          obtain ⟨V2, d2, rfl, hVI, -⟩ := hV.form
          obtain ⟨U2, e2, rfl, hUI, -⟩ := hU.form
          have hB6 := hB5.alloc hB5.size (.cells #[.slice V2 rs.length d2, .slice U2 lf.length e2] 33)
          have hb6 := hb5.alloc hb5.size (.cells #[.slice V2 rs.length d2, .slice U2 lf.length e2] 33)
          have hV6 := hVI.below (w' := w5.alloc (.cells #[.slice V2 rs.length d2, .slice U2 lf.length e2] 33)) ((Below.refl _ _).alloc (Nat.le_refl _) _)
          have hx6 := (heap_alloc_old w5 (.cells #[.slice V2 rs.length d2, .slice U2 lf.length e2] 33) (heap_ltU hx5)).trans hx5
          have hy6 := heap_alloc_new w5 (.cells #[.slice V2 rs.length d2, .slice U2 lf.length e2] 33)
          have hz5 := heap_ltU hx5
          clear hB6 hV hU hVI hUI hx5
          go_upto_region 16 with fail
          obtain ⟨W6, hW6⟩ : ∃ W6, w5.alloc (.cells #[.slice V2 rs.length d2, .slice U2 lf.length e2] 33) = W6 := ⟨_, rfl⟩
          rw [hW6] at hb6 hV6 hx6 hy6 ⊢
          clear hW6
          obtain ⟨K, hK⟩ : ∃ K, costL l xs rs = K := ⟨_, rfl⟩
          have HPC := hide (fun W (hW : Below W6.heap.size W6 W) => implPlanCost_any A1 (some ⟨go, 0, none⟩) V2 U2 c1 c2 d2 e2 l xs rs lf W ((HI1.out.below hb6).below hW) hl' HP.out ((HX1.out.below hb6).below hW) hx' (hV6.below hW) (by have := HL.out; omega))
          rw [hK] at HPC hK0 hK1 hK2
          obtain ⟨P, hP⟩ : ∃ P, K * (b : Int) = P := ⟨_, rfl⟩
          obtain ⟨Q, hQ⟩ : ∃ Q, n * a = Q := ⟨_, rfl⟩
          have hP0 : 0 ≤ P := by rw [← hP]; exact Int.mul_nonneg hK0 (by omega)
          have hP1 : P ≤ 1199999880 * 7776 := by rw [← hP]; exact Int.mul_le_mul hK1 (by omega) (by omega) (by omega)
          have hQ1 : Q ≤ 7 * 293865615360 := by rw [← hQ]; exact Nat.mul_le_mul hn7 f3'
          have hQP : (Q : Int) ≤ P := by rw [← hQ, ← hP]; exact hK2
          have e1 : (n : Int) * (a : Int) = (Q : Int) := by rw [← hQ]; exact (Int.natCast_mul n a).symm
          have v1 : IntKind.i64.wrap P = P := IntWalk.i64_in _ (by omega)
          have v2 : IntKind.i64.wrap (Q : Int) = (Q : Int) := IntWalk.i64_in _ (by omega)
          have v3 : decide (P < (Q : Int)) = false := decide_eq_false (by omega)
          have HCC : Hid (∀ W, Below W6.heap.size W6 W → (W.cell? ⟨w2.heap.size, 0, none⟩ = some (.int .i64 (a : Int)) ∧ W.cell? ⟨w2.heap.size, 1, none⟩ = some (.int .i64 (b : Int))) ∧ (W.cell? ⟨w5.heap.size, 0, none⟩ = some (.slice V2 rs.length d2) ∧ W.cell? ⟨w5.heap.size, 1, none⟩ = some (.slice U2 lf.length e2))) := hide (fun W hW => by
            have z1 := (hW.block w2.heap.size (heap_ltU hx6)).trans hx6
            have z2 := (hW.block w5.heap.size (heap_ltU hy6)).trans hy6
            exact ⟨⟨by rw [cell_of_row _ _ 0 _ _ _ z1]; rfl, by rw [cell_of_row _ _ 1 _ _ _ z1]; rfl⟩, by rw [cell_of_row _ _ 0 _ _ _ z2]; rfl, by rw [cell_of_row _ _ 1 _ _ _ z2]; rfl⟩)
          have HX6 := hide hx6
          clear hx6 hy6 hV6 hK0 hK1 hK2 hK hQ
          go_region_held3 (fun W => (W.cell? ⟨w2.heap.size, 0, none⟩ = some (.int .i64 (a : Int)) ∧ W.cell? ⟨w2.heap.size, 1, none⟩ = some (.int .i64 (b : Int))) ∧ (W.cell? ⟨w5.heap.size, 0, none⟩ = some (.slice V2 rs.length d2) ∧ W.cell? ⟨w5.heap.size, 1, none⟩ = some (.slice U2 lf.length e2)))
            (first | exact HCC.out _ (Below.refl _ _).drew | exact HCC.out _ ((Below.refl _ _).drew.trans (hB7.mono (by simp))))
            (first | (go_at_call 9; refine (HPC.out _ (Below.refl _ _).drew).mono ?_; rintro e W7 ⟨rfl, hB7⟩))
          all_goals
            have hB7' : Below W6.heap.size W6 W7 := (Below.refl _ _).drew.trans (hB7.mono (by simp))
            have hb7 := next hb6 hB7'
            have hx7 := (hB7'.block w2.heap.size (heap_ltU HX6.out)).trans HX6.out
            go_wp2_with fail
            go_roundw
            case rel => exact ⟨n + 3, by omega, by go_num, hide hx7, hb7⟩
            case measure => simp [intOf]; omega
        · have hn8 : ¬ (n : Int) ≤ 7 := by omega
          obtain ⟨tb, too, Aq, cq, rfl, htl, t0, -, -, -⟩ := (HI1.out.below hb) q t HT.out
          obtain ⟨pb, po, ep, hpl, pc⟩ := (HX1.out.below hb) q p HQ.out
          injection ep with ep
          injection ep with ep1 ep2
          subst ep1 ep2
          rw [Nat.zero_add] at pc
          have hq1 : (q : Int) < xs.length := by have := (List.getElem?_eq_some_iff.1 HQ.out).1; omega
          have k0 : wr.cell? ⟨w2.heap.size, 0, none⟩ = some (.int .i64 (a : Int)) := by rw [cell_of_row _ _ 0 _ _ _ HXR.out]; rfl
          have k1 : wr.cell? ⟨w2.heap.size, 1, none⟩ = some (.int .i64 (b : Int)) := by rw [cell_of_row _ _ 1 _ _ _ HXR.out]; rfl
          have d1 : decide ((1 : Int) ≤ (b : Int)) = true := decide_eq_true (by omega)
          have d2 : decide (1 ≤ b) = true := decide_eq_true (by omega)
          have d3 : decide ((0 : Int) ≤ (a : Int)) = true := decide_eq_true (by omega)
          have hbe := hb1.trans (hb.mono hb1.size)
          obtain ⟨y, hy⟩ : ∃ y, t.yield = y := ⟨_, rfl⟩
          rw [hy] at t0
          by_cases hyy : 0 < y
          · have d4 : decide ((0 : Int) < y) = true := decide_eq_true hyy
            go_wp2_with fail
            go_quiet (fail)
            go_wp2_with fail
            go_ret
            exact ⟨rfl, below_drewN hbe _⟩
          · have d4 : decide ((0 : Int) < y) = false := decide_eq_false hyy
            have hab := HF.out (by rw [hy]; omega)
            injection hab with ha hb'
            obtain ⟨pn, rfl⟩ : ∃ pn : Nat, p = pn := ⟨p.toNat, by omega⟩
            rw [Int.toNat_natCast] at ha
            subst ha hb'
            go_wp2_with fail
            go_quiet (fail)
            go_wp2_with fail
            go_ret
            exact ⟨rfl, below_drewN hbe _⟩
end Go.Proofs.YtjegebnnlomcpaaDoor
