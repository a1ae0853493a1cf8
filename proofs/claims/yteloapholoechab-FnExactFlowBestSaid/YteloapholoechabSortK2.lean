/- The program's sort of indices by a key, and its use: the greatest numbers first.
   Conditions: lists have at most 19 elements. -/
import Derived.Test.YteloapholoechabSortK
import Derived.Test.YteloapholoechabSortMath2
namespace Go.Proofs.Yteloapholoechab
open Go.RowKit Go.ChangeShapes Go.WideShapes Go.ChangeAt Go.Deep

theorem KeyK.alloc {w : World} {g n gk : Nat} {kb : Array Value} {key : Int → Int} (h : KeyK w g n gk kb key) (o : Obj) : KeyK (w.alloc o) g n gk kb key :=
  fun W hg => h W ((World.grownBy_alloc w o _).trans hg)

set_option maxHeartbeats 1000000 in
theorem sortBy1_any (w : World) (g n gk bx : Nat) (kb : Array Value) (key : Int → Int) (heg : ∀ args w, (callFunc gk args).run Try.prog w = .ok (.enter gk args) w) (HK : Hid (KeyK w g n gk kb key))
    (hbx : w.cell? ⟨bx, 0, none⟩ = some (.func (.func gk) #[] kb)) (hne : bx ≠ g) : CmpK w g n 59 #[.pointer (some ⟨bx, 0, none⟩)] key := by
  intro W hg x y hx0 hx1 hy0 hy1
  have hc : W.cell? ⟨bx, 0, none⟩ = some (.func (.func gk) #[] kb) := hg.cell hbx (by intro e; injection e with e; exact hne e)
  have hkx : ∀ N, Calls Try.prog gk (#[.int .i64 x] ++ kb) (W.drewN N) fun e W' => e = .returned (.int .i64 (key x)) ∧ ∃ m, W' = (W.drewN N).drewN m := fun N => HK.out _ (drewN_grown hg N) x hx0 hx1
  have hky : ∀ N, Calls Try.prog gk (#[.int .i64 y] ++ kb) (W.drewN N) fun e W' => e = .returned (.int .i64 (key y)) ∧ ∃ m, W' = (W.drewN N).drewN m := fun N => HK.out _ (drewN_grown hg N) y hy0 hy1
  clear hg hbx hne
  show Calls Try.prog 59 #[.int .i64 x, .int .i64 y, .pointer (some ⟨bx, 0, none⟩)] W _
  have mixed : Try.prog.follows .mixedOrders = true := by kernel_rfl
  go_enter Try.func59, Try.ntmps59
  go_wp2_with fail
  go_quiet_o (first | (go_at_fn gk; first | (with_reducible refine Calls.quiet_of (hkx _)) | (with_reducible refine Calls.quiet_of (hky _))) | (go_at_call 60; exact Calls.quiet_of_same (compare_any _ _ _)))
  go_wp2_with fail
  go_ret
  exact ⟨rfl, _, rfl⟩

set_option maxHeartbeats 1000000 in
theorem stableCmp_any (lo g cap n m : Nat) (xs : List Int) (key : Int → Int) (b : Value) (w : World) (hlen : xs.length = n) (hn : n < 20) (HR : Hid (∀ x ∈ xs, 0 ≤ x ∧ x < m))
    (h : IntSl w lo (.slice (some ⟨g, 0, none⟩) n cap) xs) (HC : Hid (CmpK w g m 59 #[b] key)) :
    Calls Try.prog 75 #[.slice (some ⟨g, 0, none⟩) n cap, .int .i64 n, .func (.func 59) #[] #[b]] w fun e w' =>
      e = .returned (.tuple #[]) ∧ IntSl w' lo (.slice (some ⟨g, 0, none⟩) n cap) (isortTo key xs n) ∧ w.grownBy w' (some g) := by
  have hn0 : ¬ ((20 : Int) ≤ n) := by omega
  have hn1 : ¬ ((20 : Int) < n) := by omega
  go_enter Try.func75, Try.ntmps75
  go_wp2_with fail
  go_loopw [7, 8] (fun av bv wr => av = .int .i64 0 ∧ bv = .int .i64 20 ∧ wr = w) (fun _ _ _ => 0)
  case atStart => exact ⟨rfl, rfl, rfl⟩
  case round =>
    obtain ⟨rfl, rfl, rfl⟩ := hrel
    go_wp2_with fail
    refine (insertionSort_any lo g cap n m xs key b _ hlen (by omega) HR h HC).mono ?_
    rintro e w1 ⟨rfl, hS, hg⟩
    have HS := hide hS
    have HG := hide hg
    clear hS hg
    go_wp2_with fail
    go_loopw [6] (fun av wr => av = .int .i64 20 ∧ wr = w1) (fun _ _ => 0)
    case atStart => exact ⟨rfl, rfl⟩
    case round =>
      obtain ⟨rfl, rfl⟩ := hrel
      go_wp2_with fail
      go_end0
      exact ⟨rfl, HS.out, HG.out⟩

set_option maxHeartbeats 1000000 in
theorem sortStable_any (lo g cap n m : Nat) (xs : List Int) (key : Int → Int) (b : Value) (w : World) (hlen : xs.length = n) (hn : n < 20) (HR : Hid (∀ x ∈ xs, 0 ≤ x ∧ x < m))
    (h : IntSl w lo (.slice (some ⟨g, 0, none⟩) n cap) xs) (HC : Hid (CmpK w g m 59 #[b] key)) :
    Calls Try.prog 58 #[.slice (some ⟨g, 0, none⟩) n cap, .func (.func 59) #[] #[b]] w fun e w' =>
      e = .returned (.tuple #[]) ∧ IntSl w' lo (.slice (some ⟨g, 0, none⟩) n cap) (isortTo key xs n) ∧ w.grownBy w' (some g) := by
  have HH := hide h
  clear h
  go_enter Try.func58, Try.ntmps58
  go_wp2_with fail
  refine (stableCmp_any lo g cap n m xs key b _ hlen hn HR HH.out HC).mono ?_
  rintro e w1 ⟨rfl, hS, hg⟩
  go_wp2_with fail
  go_end0
  exact ⟨rfl, hS, hg⟩

set_option maxHeartbeats 1000000 in
theorem sortBy_any (lo g cap n m gk : Nat) (xs : List Int) (key : Int → Int) (kb : Array Value) (w : World) (hlen : xs.length = n) (hn : n < 20) (HR : Hid (∀ x ∈ xs, 0 ≤ x ∧ x < m))
    (h : IntSl w lo (.slice (some ⟨g, 0, none⟩) n cap) xs) (heg : ∀ args w, (callFunc gk args).run Try.prog w = .ok (.enter gk args) w) (HK : Hid (KeyK w g m gk kb key)) :
    Calls Try.prog 33 #[.slice (some ⟨g, 0, none⟩) n cap, .func (.func gk) #[] kb] w fun e w' =>
      e = .returned (.tuple #[]) ∧ IntSl w' lo (.slice (some ⟨g, 0, none⟩) n cap) (isortTo key xs n) ∧ w.grownBy w' (some g) := by
  have hgl := (World.ownsRow.lt h g rfl).2
  have hs1 : IntSl (w.alloc (.cells #[.func (.func gk) #[] kb] 50)) lo (.slice (some ⟨g, 0, none⟩) n cap) xs := World.ownsRow.alloc h _
  have HS1 := hide hs1
  have HC := hide (sortBy1_any (w.alloc (.cells #[.func (.func gk) #[] kb] 50)) g m gk w.heap.size kb key heg (hide (HK.out.alloc _)) (by simp) (by omega))
  have hmf : ∀ (fn : Fn) (first cap : Array Value) (w : World), (Instr.makeFunc fn first cap).run Try.prog w = .ok (.func fn first cap) w := fun _ _ _ _ => rfl
  have HG := hide (World.grownBy_alloc w (.cells #[.func (.func gk) #[] kb] 50) (some g))
  clear h hs1 heg
  go_enter Try.func33, Try.ntmps33
  go_wp2_with fail
  refine (sortStable_any lo g cap n m xs key _ _ hlen hn HR HS1.out HC).mono ?_
  rintro e w1 ⟨rfl, hS, hg⟩
  have hg2 := HG.out.trans hg
  clear hmf
  go_wp2_with fail
  go_end0
  exact ⟨rfl, hS, hg2⟩
end Go.Proofs.Yteloapholoechab
