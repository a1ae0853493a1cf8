/- The draw of FreeOf's law.
   Conditions: none. -/
import Derived.Test.YtigclhjkjhkbjaaDoorDraw4
namespace Go.Proofs.YtigclhjkjhkbjaaDoor
open Go.RowKit

theorem mul2 {a b : Int} (h0 : 0 ≤ a) (h1 : a ≤ 31) (k0 : 0 ≤ b) (k1 : b ≤ 1) : 0 ≤ a * b ∧ a * b ≤ 31 := by
  rcases (by omega : b = 0 ∨ b = 1) with rfl | rfl <;> omega

set_option maxRecDepth 100000 in
set_option maxHeartbeats 2000000 in
theorem drawFreeOf_any (A : Option Addr) (c m : Nat) (w : World) (hB : BytesIn w A m) (hm : m ≤ 9223372036854775807) (hc : m ≤ c) (hc2 : c ≤ 9223372036854775807) :
    Calls Tryd.prog 32 #[.slice A m c] w (fun e w' => ∃ (l : List Item) (A : Option Addr) (c : Nat) (n : Int), e = .returned (.tuple #[.slice A l.length c, .int .i64 n]) ∧ ItemsAt w' A l ∧ l.length ≤ 7 ∧ (∀ x ∈ l, x.parts.length ≤ 5) ∧ Below w.heap.size w w') := by
  go_enter Tryd.func32, Tryd.ntmps32
  go_wp2_with fail
  refine (open_any A c m w hB hm hc hc2).mono ?_
  rintro e w1 ⟨rfl, hR1, hb1⟩
  have hz1 := hb1.size
  go_wp2_with fail
  refine (l20Items_any w.heap.size 0 9 _ hR1 (by omega) (by omega)).mono ?_
  rintro e w2 ⟨l, v, rfl, hS2, hl, hp, hR2, hg2⟩
  have hb2 : Below w.heap.size w w2 := hb1.grown hg2 hz1 (fun j hj => by injection hj with hj; omega)
  have hz2 := hb2.size
  obtain ⟨A2, c2, hv, hI2⟩ := hS2.form
  subst hv
  have HS := hide (And.intro hS2 (And.intro hR2 (And.intro hp hR1)))
  clear hS2 hp hR1 hI2
  go_wp2_with fail
  refine (pick_any w.heap.size _ 32 _ hR2 (by omega) (by omega)).mono ?_
  rintro e w3 ⟨v1, rfl, h10, h11, hR3, hg3⟩
  go_wp2_with fail
  refine (pick_any w.heap.size _ 2 _ hR3 (by omega) (by omega)).mono ?_
  rintro e w4 ⟨v2, rfl, h20, h21, hR4, hg4⟩
  have hv1 : v1 ≤ 31 := by omega
  have hv2 : v2 ≤ 1 := by omega
  obtain ⟨hm0, hm1⟩ := mul2 h10 hv1 h20 hv2
  have hw1 : IntKind.i64.wrap (v1 * v2) = v1 * v2 := IntWalk.i64_in _ (by omega)
  go_wp2_with fail
  refine (pick_any w.heap.size _ 30 _ hR4 (by omega) (by omega)).mono ?_
  rintro e w5 ⟨v3, rfl, h30, h31, hR5, hg5⟩
  have hv3 : v3 ≤ 29 := by omega
  have hq3 : 0 ≤ v3 / 29 ∧ v3 / 29 ≤ 1 := by omega
  obtain ⟨hq30, hq31⟩ := hq3
  go_wp2_with fail
  refine (pick_any w.heap.size _ 30 _ hR5 (by omega) (by omega)).mono ?_
  rintro e w6 ⟨v4, rfl, h40, h41, hR6, hg6⟩
  have hv4 : v4 ≤ 29 := by omega
  have hq4 : 0 ≤ v4 / 29 ∧ v4 / 29 ≤ 1 := by omega
  obtain ⟨hq40, hq41⟩ := hq4
  have hG : w2.grownBy w6 (some w.heap.size) := ((hg3.trans hg4).trans hg5).trans hg6
  have hb6 : Below w.heap.size w w6 := hb2.grown hG hz2 (fun j hj => by injection hj with hj; omega)
  have hS6 := HS.out.1.pick HS.out.2.1 HS.out.2.2.2.lt hG
  obtain ⟨A3, c3, hv, hI3⟩ := hS6.form
  injection hv with hv hv2 hv3
  subst hv hv3
  have HI := hide hI3
  have HF := hide hS6
  clear hI3 hS6 hR3 hg3 hR2 hg2 hg4 hg5 hg6 hR4 hR5
  go_wp2_with fail
  refine bodyPost_ret (v := .tuple #[.slice A2 l.length c2, .int .i64 (v1 * v2 + v3 / 29 * 32 - v4 / 29 * 40)]) (by simp [results, Tryd.results32, go_sem]) rfl ⟨l, A2, c2, _, rfl, HI.out, hl, HS.out.2.2.1, hb6⟩
end Go.Proofs.YtigclhjkjhkbjaaDoor
