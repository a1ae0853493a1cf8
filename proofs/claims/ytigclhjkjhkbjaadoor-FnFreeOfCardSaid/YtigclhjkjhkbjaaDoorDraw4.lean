/- Contracts of the draws of an index, and of the arguments of UsesOf and MarksOf.
   Conditions: the bounds in each statement. -/
import Derived.Test.YtigclhjkjhkbjaaDoorDraw3
namespace Go.Proofs.YtigclhjkjhkbjaaDoor
open Go.RowKit

def DrewN (w : World) (b n : Nat) (lo hi : Int) (m : Nat) (e : Ending) (w' : World) : Prop := ∃ v : Int, e = .returned (.int .i64 v) ∧ lo ≤ v ∧ v ≤ hi ∧ Rd w' b (n + m) ∧ w.grownBy w' (some b)

set_option maxRecDepth 100000 in
set_option maxHeartbeats 1000000 in
theorem l20Index_any (b n m : Nat) (A : Option Addr) (c : Nat) (w : World) (hR : Rd w b n) (hn : n ≤ 90000) (hm : m ≤ 1000) :
    Calls Tryd.prog 71 #[.pointer (some ⟨b, 0, none⟩), .slice A m c] w (DrewN w b n (-9) 2000 3) := by
  go_enter Tryd.func71, Tryd.ntmps71
  go_wp2_with fail
  refine (pick_any b n (max (m : Int) 1) _ hR (by omega) (by omega)).mono ?_
  rintro e w1 ⟨v1, rfl, h10, h11, hR1, hg1⟩
  go_wp2_with fail
  refine (pick_any b _ 30 _ hR1 (by omega) (by omega)).mono ?_
  rintro e w2 ⟨v2, rfl, h20, h21, hR2, hg2⟩
  have hv1 : v1 ≤ 1000 := by omega
  have hv2 : v2 ≤ 29 := by omega
  have hq2 : 0 ≤ v2 / 29 ∧ v2 / 29 ≤ 1 := by omega
  obtain ⟨hq20, hq21⟩ := hq2
  go_wp2_with fail
  refine (pick_any b _ 30 _ hR2 (by omega) (by omega)).mono ?_
  rintro e w3 ⟨v3, rfl, h30, h31, hR3, hg3⟩
  have hv3 : v3 ≤ 29 := by omega
  have hq3 : 0 ≤ v3 / 29 ∧ v3 / 29 ≤ 1 := by omega
  obtain ⟨hq30, hq31⟩ := hq3
  go_wp2_with fail
  refine bodyPost_ret (results_tmp rfl _ _ _) rfl ⟨v1 + v2 / 29 * 8 - v3 / 29 * 9, rfl, by omega, by omega, hR3, (hg1.trans hg2).trans hg3⟩

def DrawIx (w : World) (e : Ending) (w' : World) : Prop := ∃ (l : List Item) (A : Option Addr) (c : Nat) (n : Int), e = .returned (.tuple #[.slice A l.length c, .int .i64 n]) ∧ ItemsAt w' A l ∧ l.length ≤ 7 ∧ (∀ x ∈ l, x.parts.length ≤ 5) ∧ -9 ≤ n ∧ n ≤ 2000 ∧ Below w.heap.size w w'

set_option maxRecDepth 100000 in
set_option maxHeartbeats 1000000 in
theorem drawUsesOf_any (A : Option Addr) (c m : Nat) (w : World) (hB : BytesIn w A m) (hm : m ≤ 9223372036854775807) (hc : m ≤ c) (hc2 : c ≤ 9223372036854775807) :
    Calls Tryd.prog 26 #[.slice A m c] w (DrawIx w) := by
  go_enter Tryd.func26, Tryd.ntmps26
  go_wp2_with fail
  refine (open_any A c m w hB hm hc hc2).mono ?_
  rintro e w1 ⟨rfl, hR1, hb1⟩
  have hz1 := hb1.size
  go_wp2_with fail
  refine (l20Items_any w.heap.size 0 9 _ hR1 (by omega) (by omega)).mono ?_
  rintro e w2 ⟨l, v, rfl, hS2, hl, hp, hR2, hg2⟩
  have hb2 : Below w.heap.size w w2 := hb1.grown hg2 hz1 (fun j hj => by injection hj with hj; omega)
  have hz2 := hb2.size
  obtain ⟨A2, c2, hv, hI2⟩ := hS2.form
  subst hv
  have HS := hide (And.intro hS2 (And.intro hR2 (And.intro hp hR1)))
  clear hS2 hp hR1 hI2
  go_wp2_with fail
  refine (l20Index_any w.heap.size _ l.length A2 c2 _ hR2 (by omega) (by omega)).mono ?_
  rintro e w3 ⟨n, rfl, hn0, hn1, hR3, hg3⟩
  have hb3 : Below w.heap.size w w3 := hb2.grown hg3 hz2 (fun j hj => by injection hj with hj; omega)
  have hS3 := HS.out.1.pick HS.out.2.1 HS.out.2.2.2.lt hg3
  obtain ⟨A3, c3, hv, hI3⟩ := hS3.form
  injection hv with hv hv2 hv3
  subst hv hv3
  have HI := hide hI3
  clear hI3 hS3 hR3 hg3 hR2 hg2
  go_wp2_with fail
  refine bodyPost_ret (v := .tuple #[.slice A2 l.length c2, .int .i64 n]) (by simp [results, Tryd.results26, go_sem]) rfl ⟨l, A2, c2, n, rfl, HI.out, hl, HS.out.2.2.1, hn0, hn1, hb3⟩
end Go.Proofs.YtigclhjkjhkbjaaDoor
