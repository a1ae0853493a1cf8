/- slices.SortStableFunc at lists of few numbers, with a comparison that only reads: contracts of the library's insertion sort, of cmp.Compare, and of the program's sort by a key.
   Conditions: lists have at most 19 elements. -/
import Derived.Test.YteloapholoechabSortMath
import Derived.Test.YteloapholoechabSlKit
import Derived.Test.YteloapholoechabTab
import Derived.Deep.QuietTactic
import Derived.BigQuiet
import Derived.BigRegion
import Derived.Shelf.RegionOpenPlain
import Derived.Shelf.Abstract
namespace Go.Proofs.Yteloapholoechab
open Go.RowKit Go.ChangeShapes Go.WideShapes Go.ChangeAt Go.Deep

set_option maxHeartbeats 400000 in
theorem isNaN_any (x : Int) (w : World) : Calls Try.prog 76 #[.int .i64 x] w fun e w' => e = .returned (.bool false) ∧ w' = w := by
  have hx : (x != x) = false := by simp
  go_enter Try.func76, Try.ntmps76
  go_wp2_with fail
  go_ret
  exact ⟨rfl, rfl⟩

set_option maxHeartbeats 400000 in
theorem compare_any (a b : Int) (w : World) : Calls Try.prog 60 #[.int .i64 a, .int .i64 b] w fun e w' => e = .returned (.int .i64 (cmpI a b)) ∧ w' = w := by
  rcases Int.lt_trichotomy a b with h | h | h
  · have HC : Hid (cmpI a b = -1) := hide (by unfold cmpI; rw [if_pos h])
    go_enter Try.func60, Try.ntmps60
    go_wp2_with fail
    refine (isNaN_any _ _).mono ?_
    rintro e w1 ⟨rfl, rfl⟩
    go_wp2_with fail
    refine (isNaN_any _ _).mono ?_
    rintro e w1 ⟨rfl, rfl⟩
    go_wp2_with fail
    go_ret
    exact ⟨by rw [HC.out]; rfl, rfl⟩
  · subst h
    have HC : Hid (cmpI a a = 0) := hide (by unfold cmpI; rw [if_neg (by omega), if_neg (by omega)])
    go_enter Try.func60, Try.ntmps60
    go_wp2_with fail
    refine (isNaN_any _ _).mono ?_
    rintro e w1 ⟨rfl, rfl⟩
    go_wp2_with fail
    refine (isNaN_any _ _).mono ?_
    rintro e w1 ⟨rfl, rfl⟩
    go_wp2_with fail
    go_ret
    exact ⟨by rw [HC.out]; rfl, rfl⟩
  · have HC : Hid (cmpI a b = 1) := hide (by unfold cmpI; rw [if_neg (by omega), if_pos h])
    have h' : ¬ a < b := by omega
    go_enter Try.func60, Try.ntmps60
    go_wp2_with fail
    refine (isNaN_any _ _).mono ?_
    rintro e w1 ⟨rfl, rfl⟩
    go_wp2_with fail
    refine (isNaN_any _ _).mono ?_
    rintro e w1 ⟨rfl, rfl⟩
    go_wp2_with fail
    go_ret
    exact ⟨by rw [HC.out]; rfl, rfl⟩

/-- What is asked of a comparison: in every world that keeps all blocks but the sorted one, at indices below n, it tells how their keys compare; it reads and may draw. -/
def CmpK (w : World) (g n : Nat) (gc : Nat) (cb : Array Value) (key : Int → Int) : Prop :=
  ∀ W, w.grownBy W (some g) → ∀ x y : Int, 0 ≤ x → x < n → 0 ≤ y → y < n → Calls Try.prog gc (#[.int .i64 x, .int .i64 y] ++ cb) W fun e W' => e = .returned (.int .i64 (cmpI (key x) (key y))) ∧ ∃ m, W' = W.drewN m
/-- The same of a key. -/
def KeyK (w : World) (g n : Nat) (gk : Nat) (kb : Array Value) (key : Int → Int) : Prop :=
  ∀ W, w.grownBy W (some g) → ∀ x : Int, 0 ≤ x → x < n → Calls Try.prog gk (#[.int .i64 x] ++ kb) W fun e W' => e = .returned (.int .i64 (key x)) ∧ ∃ m, W' = W.drewN m

theorem drewN_grown {w W : World} {q : Option Nat} (h : w.grownBy W q) (n : Nat) : w.grownBy (W.drewN n) q := ⟨h.os, h.tape, h.output, h.size, h.block⟩
theorem drewN_ints {W : World} {lo : Nat} {v : Value} {xs : List Int} (h : IntSl W lo v xs) (n : Nat) : IntSl (W.drewN n) lo v xs := h

set_option maxRecDepth 1000000 in
set_option maxHeartbeats 4000000 in
theorem insertionSort_any (lo g cap n m : Nat) (xs : List Int) (key : Int → Int) (b : Value) (w : World) (hlen : xs.length = n) (hn : n ≤ 1048576) (HR : Hid (∀ x ∈ xs, 0 ≤ x ∧ x < m))
    (h : IntSl w lo (.slice (some ⟨g, 0, none⟩) n cap) xs) (HC : Hid (CmpK w g m 59 #[b] key)) :
    Calls Try.prog 81 #[.slice (some ⟨g, 0, none⟩) n cap, .int .i64 0, .int .i64 n, .func (.func 59) #[] #[b]] w fun e w' =>
      e = .returned (.tuple #[]) ∧ IntSl w' lo (.slice (some ⟨g, 0, none⟩) n cap) (isortTo key xs n) ∧ w.grownBy w' (some g) := by
  have mixed : Try.prog.follows .mixedOrders = true := by kernel_rfl
  have eg : ∀ args w, (callFunc 59 args).run Try.prog w = .ok (.enter 59 args) w := enters_of Try.func59 (by kernel_rfl) rfl
  go_enter Try.func81, Try.ntmps81
  go_wp2_with fail
  go_loopw [8] (fun iv wr => ∃ (i : Nat) (ys : List Int), 1 ≤ i ∧ (i ≤ n ∨ n = 0) ∧ iv = .int .i64 i ∧ Hid (ys = isortTo key xs i ∧ ys.length = n ∧ (∀ x ∈ ys, 0 ≤ x ∧ x < m)) ∧ IntSl wr lo (.slice (some ⟨g, 0, none⟩) n cap) ys ∧ w.grownBy wr (some g)) (fun iv _ => n + 1 - (intOf iv).toNat)
  case atStart => exact ⟨1, xs, Nat.le_refl _, by omega, by go_num, hide ⟨rfl, hlen, HR.out⟩, h, World.grownBy.refl _ _⟩
  case round =>
    clear h
    obtain ⟨i, ys, hi1, hin, rfl, HY, hS, hg⟩ := hrel
    by_cases hlt : i < n
    · have hz : (i : Int) < n := by omega
      have hz0 : (0 : Int) ≤ i := by omega
      have HS := hide hS
      have HG := hide hg
      clear hS hg
      go_wp2_with fail
      obtain ⟨wo, rfl⟩ : ∃ wo : World, wo = wr := ⟨_, rfl⟩
      go_loopw [9] (fun jv wr => ∃ (j : Nat) (zs : List Int), j ≤ i ∧ jv = .int .i64 j ∧ Hid (sink key j zs = sink key i ys ∧ zs.length = n ∧ (∀ x ∈ zs, 0 ≤ x ∧ x < m)) ∧ IntSl wr lo (.slice (some ⟨g, 0, none⟩) n cap) zs ∧ w.grownBy wr (some g)) (fun jv _ => (intOf jv).toNat)
      case atStart => exact ⟨i, ys, Nat.le_refl _, rfl, hide ⟨rfl, HY.out.2.1, HY.out.2.2⟩, HS.out, HG.out⟩
      case round =>
        clear HS HG
        obtain ⟨j, zs, hji, rfl, HZ, hS, hg⟩ := hrel
        have hzl := HZ.out.2.1
        cases j with
        | zero =>
          have H3 : Hid (zs = isortTo key xs (i + 1) ∧ zs.length = n ∧ (∀ x ∈ zs, 0 ≤ x ∧ x < m)) := hide ⟨by
            have := HZ.out.1
            rw [isortTo, ← HY.out.1, ← this]
            rfl, HZ.out.2⟩
          clear hzl
          go_wp2_with fail
          go_quiet (fail)
          go_wp2_with fail
          go_roundw
          case rel => exact ⟨i + 1, zs, by omega, by omega, by go_num, H3, drewN_ints hS _, drewN_grown hg _⟩
          case measure => simp [intOf]; omega
        | succ j =>
          have hj1 : j + 1 < zs.length := by omega
          have hj0 : j < zs.length := by omega
          have hcx := hS.cellAt (List.getElem?_eq_getElem hj1)
          have hcy := hS.cellAt (List.getElem?_eq_getElem hj0)
          have hfx := hS.frozenAt (j + 1)
          have hfy := hS.frozenAt j
          have hx := HZ.out.2.2 _ (List.getElem_mem hj1)
          have hy := HZ.out.2.2 _ (List.getElem_mem hj0)
          have HX : Hid (zs.getD (j + 1) 0 = zs[j + 1]) := hide (by simp [hj1])
          have HYY : Hid (zs.getD j 0 = zs[j]) := hide (by simp [hj0])
          generalize zs[j + 1] = x at *
          generalize zs[j] = y at *
          have hc : ∀ N, Calls Try.prog 59 #[.int .i64 x, .int .i64 y, b] (wr.drewN N) fun e W' => e = .returned (.int .i64 (cmpI (key x) (key y))) ∧ ∃ m, W' = (wr.drewN N).drewN m :=
            fun N => HC.out _ (drewN_grown hg N) x y hx.1 hx.2 hy.1 hy.2
          have hz1 : (0 : Int) ≤ (j : Int) + 1 := by omega
          have hz2 : (j : Int) + 1 < n := by omega
          have hz3 : (j : Int) < n := by omega
          have hz4 : decide ((0 : Int) < (j : Int) + 1) = true := decide_eq_true (by omega)
          have hwp : IntKind.i64.wrap (j : Int) = (j : Int) := IntWalk.i64_in _ (by omega)
          have e0 : ((j : Int) + 1).toNat = j + 1 := by omega
          obtain ⟨q, hq⟩ : ∃ q, cmpI (key x) (key y) = q := ⟨_, rfl⟩
          rw [hq] at hc
          have HS := hide hS
          have HG := hide hg
          clear hx hy hj1 hj0 hS hg hzl
          by_cases hlv : q < 0
          · have hld : decide (q < 0) = true := decide_eq_true hlv
            have H3 : Hid (sink key j (swapAt zs j) = sink key i ys ∧ (swapAt zs j).length = n ∧ (∀ x ∈ swapAt zs j, 0 ≤ x ∧ x < m)) := hide (by
              refine ⟨?_, by rw [swapAt_len]; exact HZ.out.2.1, fun u hu => HZ.out.2.2 u (swapAt_mem (by have := HZ.out.2.1; omega) hu)⟩
              rw [← HZ.out.1, sink_succ, if_pos]
              rw [HX.out, HYY.out, ← cmpI_neg, hq]
              exact hlv)
            have HSW : Hid (swapAt zs j = (zs.set (j + 1) y).set j x) := hide (by unfold swapAt; rw [HX.out, HYY.out])
            clear hq
            go_wp2_with fail
            go_quiet_o (first | (go_at_fn 59; refine Calls.quiet_of (hc _)))
            go_wp2_with fail
            go_big_region_o
            all_goals go_wp2
            all_goals
              have q1 := drewN_ints HS.out (nq + 1)
              have q2 := IntSl.store q1 (j + 1) y
              have q3 := IntSl.store q2 j x
              exact ⟨⟨j, swapAt zs j, by omega, rfl, H3, by rw [HSW.out]; exact q3, ((drewN_grown HG.out (nq + 1)).trans (IntSl.grownSet q1 (j + 1) y)).trans (IntSl.grownSet q2 j x)⟩, by simp [intOf]⟩
          · have hld : decide (q < 0) = false := decide_eq_false hlv
            have H3 : Hid (zs = isortTo key xs (i + 1) ∧ zs.length = n ∧ (∀ x ∈ zs, 0 ≤ x ∧ x < m)) := hide ⟨by
              have := HZ.out.1
              rw [sink_succ, if_neg (by rw [HX.out, HYY.out, ← cmpI_neg, hq]; exact hlv)] at this
              rw [isortTo, ← HY.out.1, this], HZ.out.2⟩
            clear hq
            go_wp2_with fail
            go_quiet_o (first | (go_at_fn 59; refine Calls.quiet_of (hc _)))
            go_wp2_with fail
            go_roundw
            case rel => exact ⟨i + 1, zs, by omega, by omega, by go_num, H3, drewN_ints HS.out _, drewN_grown HG.out _⟩
            case measure => simp [intOf]; omega
    · have hzn : ¬ (i : Int) < n := by omega
      have H3 : Hid (ys = isortTo key xs n) := hide (by
        rcases hin with h | h
        · obtain rfl : i = n := by omega
          exact HY.out.1
        · subst h
          have a := HY.out.2.1
          have b' : ys = [] := List.eq_nil_of_length_eq_zero a
          have c : xs = [] := List.eq_nil_of_length_eq_zero hlen
          rw [b', c]
          rfl)
      go_wp2_with fail
      go_end0
      exact ⟨rfl, by rw [← H3.out]; exact hS, hg⟩
end Go.Proofs.Yteloapholoechab
