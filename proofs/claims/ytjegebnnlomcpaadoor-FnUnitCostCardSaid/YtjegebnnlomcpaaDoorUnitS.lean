/- UnitS: contracts of l1Gcd of the reference model and of lowest of the program.
   Conditions: the numbers are not less than nothing, and fit. -/
import Derived.Test.YtjegebnnlomcpaaDoorTab
import Derived.Test.YtjegebnnlomcpaaDoorUnitMath
import Derived.StillTail
import Derived.OrdersIn
namespace Go.Proofs.YtjegebnnlomcpaaDoor
open Go.RowKit Go.ChangeShapes Go.WideShapes Go.ChangeAt Go.Deep

theorem gcd_step {x y : Nat} : Nat.gcd y (x % y) = Nat.gcd x y := by rw [Nat.gcd_comm x y, Nat.gcd_rec y x, Nat.gcd_comm]
set_option maxHeartbeats 1000000 in
theorem l1Gcd_any (a b : Nat) (w : World) (ha : a ≤ 9000000000000000000) (hb : b ≤ 9000000000000000000) :
    Calls Tryd.prog 20 #[.int .i64 a, .int .i64 b] w fun e w' => e = .returned (.int .i64 (Nat.gcd a b : Nat)) ∧ w' = w := by
  obtain ⟨g, HG⟩ : ∃ g, Hid (Nat.gcd a b = g) := ⟨_, hide rfl⟩
  rw [HG.out]
  go_enter Tryd.func20, Tryd.ntmps20
  go_wp2_with fail
  go_loopw [0, 1] (fun av bv wr => ∃ x y : Nat, av = .int .i64 x ∧ bv = .int .i64 y ∧ Hid (Nat.gcd x y = g) ∧ x ≤ 9000000000000000000 ∧ y ≤ 9000000000000000000 ∧ wr = w) (fun _ bv _ => (intOf bv).toNat)
  case atStart => exact ⟨a, b, rfl, rfl, HG, ha, hb, rfl⟩
  case round =>
    obtain ⟨x, y, rfl, rfl, HX, hx, hy, rfl⟩ := hrel
    by_cases h0 : y = 0
    · subst h0
      have hg : x = g := by rw [← HX.out, Nat.gcd_zero_right]
      subst hg
      go_wp2_with fail
      go_ret
      exact ⟨rfl, rfl⟩
    · have hyb : ((y : Int) != 0) = true := by simp; omega
      have hyz : ¬ (y : Int) = 0 := by omega
      have hlt := Nat.mod_lt x (show 0 < y by omega)
      obtain ⟨z, hz⟩ : ∃ z, x % y = z := ⟨_, rfl⟩
      have hzz : Int.tmod (x : Int) (y : Int) = (z : Int) := by rw [← hz]; exact (Int.ofNat_tmod x y).symm
      have HZ : Hid (Nat.gcd y z = g) := hide (by rw [← hz, gcd_step]; exact HX.out)
      rw [hz] at hlt
      clear hz
      go_wp2_with fail
      go_roundw
      case rel => exact ⟨y, z, rfl, by first | rfl | go_num, HZ, hy, by omega, trivial⟩
      case measure => simp [intOf]; omega

theorem frac_set {W : World} {X : Nat} {a b u v : Value} (h : W.heap[X]? = some (.cells #[a, b] 28 (0, 0))) : ((W.setCell ⟨X, 0, none⟩ u).setCell ⟨X, 1, none⟩ v).cell? ⟨X, 0, none⟩ = some u ∧ ((W.setCell ⟨X, 0, none⟩ u).setCell ⟨X, 1, none⟩ v).cell? ⟨X, 1, none⟩ = some v := by
  have h0 : W.rowIs X 28 2 (fun i => if i = 0 then a else b) := ⟨_, h, rfl, fun i hi => by rcases (by omega : i = 0 ∨ i = 1) with rfl | rfl <;> rfl⟩
  have hk : ((W.setCell ⟨X, 0, none⟩ u).setCell ⟨X, 1, none⟩ v).rowIs X 28 2 (fun i => if i = 0 then u else v) := ((h0.set 0 _).set 1 _).congr (fun i hi => by rcases (by omega : i = 0 ∨ i = 1) with rfl | rfl <;> rfl)
  have f0 := hk.cell (i := 0) (by omega)
  have f1 := hk.cell (i := 1) (by omega)
  rw [if_pos rfl] at f0
  rw [if_neg (by omega)] at f1
  exact ⟨f0, f1⟩
theorem lowN_div {n d g : Nat} (h : Nat.gcd n d = g) : lowN n d = (n / g, d / g) := by unfold lowN; rw [h]
set_option maxRecDepth 100000 in
set_option maxHeartbeats 1000000 in
theorem lowest_any (n d : Nat) (w : World) (hn : n ≤ 9000000000000000000) (hd : d ≤ 9000000000000000000) (hd0 : 0 < d) :
    Calls Tryd.prog 31 #[.int .i64 n, .int .i64 d] w fun e w' => e = .returned (.agg #[.int .i64 ((lowN n d).1 : Nat), .int .i64 ((lowN n d).2 : Nat)]) ∧ Below w.heap.size w w' := by
  obtain ⟨g, HG⟩ : ∃ g, Hid (Nat.gcd n d = g) := ⟨_, hide rfl⟩
  have hg0 : 0 < g := by rw [← HG.out]; exact Nat.gcd_pos_of_pos_right n hd0
  rw [lowN_div HG.out]
  go_enter Tryd.func31, Tryd.ntmps31
  go_wp2_with fail
  go_loopw [5, 6] (fun av bv wr => ∃ x y : Nat, av = .int .i64 x ∧ bv = .int .i64 y ∧ Hid (Nat.gcd x y = g) ∧ x ≤ 9000000000000000000 ∧ y ≤ 9000000000000000000 ∧ wr.heap[w.heap.size]? = some (.cells #[.int .i64 0, .int .i64 0] 28 (0, 0)) ∧ Below w.heap.size w wr) (fun _ bv _ => (intOf bv).toNat)
  case atStart => exact ⟨n, d, rfl, rfl, HG, hn, hd, heap_alloc_new w _, by go_grown⟩
  case round =>
    obtain ⟨x, y, rfl, rfl, HX, hx, hy, hbx, hb⟩ := hrel
    have HBX := hide hbx
    clear hbx
    by_cases h0 : y = 0
    · subst h0
      have hg : x = g := by rw [← HX.out, Nat.gcd_zero_right]
      subst hg
      have hxz : ¬ (x : Int) = 0 := by omega
      have hq1 : Int.tdiv (n : Int) (x : Int) = ((n / x : Nat) : Int) := (Int.ofNat_tdiv n x).symm
      have hq2 : Int.tdiv (d : Int) (x : Int) = ((d / x : Nat) : Int) := (Int.ofNat_tdiv d x).symm
      obtain ⟨p, hp⟩ : ∃ p, n / x = p := ⟨_, rfl⟩
      obtain ⟨q, hq⟩ : ∃ q, d / x = q := ⟨_, rfl⟩
      have hpn : p ≤ n := by rw [← hp]; exact Nat.div_le_self _ _
      have hqn : q ≤ d := by rw [← hq]; exact Nat.div_le_self _ _
      rw [hp] at hq1
      rw [hq] at hq2
      have HPQ := hide (And.intro hp hq)
      have hxb : ((x : Int) == 0) = false := beq_false_of_ne hxz
      have hxn : ¬ x = 0 := by omega
      have hw1 : IntKind.i64.wrap (Int.tdiv (n : Int) (x : Int)) = (p : Int) := by rw [hq1]; exact IntWalk.i64_in _ (by omega)
      have hw2 : IntKind.i64.wrap (Int.tdiv (d : Int) (x : Int)) = (q : Int) := by rw [hq2]; exact IntWalk.i64_in _ (by omega)
      have he1 : (n : Int) / (x : Int) = (p : Int) := by rw [← hp]; exact (Int.natCast_ediv n x).symm
      have he2 : (d : Int) / (x : Int) = (q : Int) := by rw [← hq]; exact (Int.natCast_ediv d x).symm
      have hc0 : wr.cell? ⟨w.heap.size, 0, none⟩ = some (.int .i64 0) := by rw [cell_of_row _ _ 0 _ _ _ HBX.out]; rfl
      have hc1 : wr.cell? ⟨w.heap.size, 1, none⟩ = some (.int .i64 0) := by rw [cell_of_row _ _ 1 _ _ _ HBX.out]; rfl
      have hf0 := frozen_of_row wr w.heap.size 0 _ _ HBX.out
      have hf1 := frozen_of_row wr w.heap.size 1 _ _ HBX.out
      clear hp hq
      go_wp2_with fail
      refine still_tail_drew 7 (by kernel_rfl) (by kernel_rfl) ?_
      simp only [List.take_succ_cons, List.take_zero, List.drop_succ_cons, List.drop_zero]
      repeat still_step
      refine wpStill_nil ?_
      go_wp2_with fail
      have hbs := (hb.setCell (p := ⟨w.heap.size, 0, none⟩) (Nat.le_refl _) (.int .i64 (p : Int))).setCell (p := ⟨w.heap.size, 1, none⟩) (Nat.le_refl _) (.int .i64 (q : Int))
      have hfs := frac_set (u := .int .i64 (p : Int)) (v := .int .i64 (q : Int)) HBX.out
      obtain ⟨f0, f1⟩ := hfs
      refine bodyPost_ret (v := .agg #[.int .i64 (p : Int), .int .i64 (q : Int)]) (by simp [results, Tryd.results31, go_sem, f0, f1]) rfl ⟨by rw [HPQ.out.1, HPQ.out.2], hbs.drew⟩
    · have hyb : ((y : Int) != 0) = true := by simp; omega
      have hyz : ¬ (y : Int) = 0 := by omega
      have hlt := Nat.mod_lt x (show 0 < y by omega)
      obtain ⟨z, hz⟩ : ∃ z, x % y = z := ⟨_, rfl⟩
      have hzz : Int.tmod (x : Int) (y : Int) = (z : Int) := by rw [← hz]; exact (Int.ofNat_tmod x y).symm
      have HZ : Hid (Nat.gcd y z = g) := hide (by rw [← hz, gcd_step]; exact HX.out)
      rw [hz] at hlt
      clear hz
      go_wp2_with fail
      go_quiet (fail)
      go_wp2_with fail
      go_roundw
      case rel => exact ⟨y, z, rfl, by first | rfl | go_num, HZ, hy, by omega, HBX.out, below_drewN hb _⟩
      case measure => simp [intOf]; omega
end Go.Proofs.YtjegebnnlomcpaaDoor
