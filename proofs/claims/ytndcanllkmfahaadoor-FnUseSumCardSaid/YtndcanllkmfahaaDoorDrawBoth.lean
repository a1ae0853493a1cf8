/- Contracts of the draws of wants, and of lots and wants together.
   Conditions: the bounds in each statement. -/
import Derived.Test.YtndcanllkmfahaaDoorDrawSt
import Derived.Test.YtndcanllkmfahaaDoorDrawWants
namespace Go.Proofs.YtndcanllkmfahaaDoor
open Go.RowKit

def DrewI (w : World) (e : Ending) (w' : World) : Prop := ∃ (ls : List Int) (g c : Nat), e = .returned (.slice (some ⟨g, 0, none⟩) ls.length c) ∧ IntSl w' w.heap.size (.slice (some ⟨g, 0, none⟩) ls.length c) ls ∧ ls.length ≤ 7 ∧ Below w.heap.size w w'

def DrewBoth (w : World) (b n : Nat) (e : Ending) (w' : World) : Prop := ∃ (ls : List Lot) (g c : Nat) (xs : List Int) (h d : Nat), e = .returned (.tuple #[.slice (some ⟨g, 0, none⟩) ls.length c, .slice (some ⟨h, 0, none⟩) xs.length d]) ∧
  LotSl w' w.heap.size (.slice (some ⟨g, 0, none⟩) ls.length c) ls ∧ IntSl w' w.heap.size (.slice (some ⟨h, 0, none⟩) xs.length d) xs ∧ ls.length ≤ 6 ∧ xs.length ≤ 7 ∧ Rd w' b (n + 40) ∧ w.grownBy w' (some b)

set_option maxRecDepth 100000 in
set_option maxHeartbeats 1000000 in
theorem l20Both_any (b n : Nat) (w : World) (hR : Rd w b n) (hn : n ≤ 70000) :
    Calls Tryd.prog 54 #[.pointer (some ⟨b, 0, none⟩)] w (DrewBoth w b n) := by
  have hblt := hR.lt
  go_enter Tryd.func54, Tryd.ntmps54
  go_wp2_with fail
  refine (l20Lots_any b n 9 _ hR (by omega) (by omega)).mono ?_
  rintro e w1 ⟨ls, g, c, rfl, hS1, hl, hR1, hg1⟩
  have hz1 := hg1.size
  have HS1 := hide hS1
  clear hS1
  go_wp2_with fail
  refine (l20Wants_any b _ 9 _ hR1 (by omega) (by omega)).mono ?_
  rintro e w2 ⟨xs, h, d, rfl, hS2, hx, hR2, hg2⟩
  have HS12 := hide (LotSl.pick HS1.out hblt hg2)
  have HS22 := hide (ownsRow_mono hS2 hz1)
  have HG := hide (hg1.trans hg2)
  clear hS2 hg1 hg2 hR1 HS1
  go_wp2_with fail
  refine bodyPost_ret (results_tmp2 rfl _ _ _) rfl ⟨ls, g, c, xs, h, d, rfl, HS12.out, HS22.out, hl, hx, hR2, HG.out⟩

def DrewLW (w : World) (e : Ending) (w' : World) : Prop := ∃ (ls : List Lot) (g c : Nat) (xs : List Int) (h d : Nat), e = .returned (.tuple #[.slice (some ⟨g, 0, none⟩) ls.length c, .slice (some ⟨h, 0, none⟩) xs.length d]) ∧
  LotSl w' w.heap.size (.slice (some ⟨g, 0, none⟩) ls.length c) ls ∧ IntSl w' w.heap.size (.slice (some ⟨h, 0, none⟩) xs.length d) xs ∧ ls.length ≤ 6 ∧ xs.length ≤ 7 ∧ Below w.heap.size w w'

set_option maxRecDepth 100000 in
set_option maxHeartbeats 1000000 in
theorem drawUseFirst_any (A : Option Addr) (c m : Nat) (w : World) (hB : BytesIn w A m) (hm : m ≤ 9223372036854775807) (hc : m ≤ c) (hc2 : c ≤ 9223372036854775807) :
    Calls Tryd.prog 30 #[.slice A m c] w (DrewLW w) := by
  go_enter Tryd.func30, Tryd.ntmps30
  go_wp2_with fail
  refine (open_any A c m w hB hm hc hc2).mono ?_
  rintro e w1 ⟨rfl, hR1, hb1⟩
  have hz1 := hb1.size
  go_wp2_with fail
  refine (l20Both_any w.heap.size 0 _ hR1 (by omega)).mono ?_
  rintro e w2 ⟨ls, g, c2, xs, h, d, rfl, hS2, hT2, hl, hx, hR2, hg2⟩
  have hb2 : Below w.heap.size w w2 := hb1.grown hg2 hz1 (fun j hj => by injection hj with hj; omega)
  have HS2 := hide (ownsRow_mono hS2 hz1)
  have HT2 := hide (ownsRow_mono hT2 hz1)
  clear hS2 hT2 hR2 hg2
  go_wp2_with fail
  refine bodyPost_ret (results_tmp2 rfl _ _ _) rfl ⟨ls, g, c2, xs, h, d, rfl, HS2.out, HT2.out, hl, hx, hb2⟩

set_option maxRecDepth 100000 in
set_option maxHeartbeats 1000000 in
theorem drawUseMost_any (A : Option Addr) (c m : Nat) (w : World) (hB : BytesIn w A m) (hm : m ≤ 9223372036854775807) (hc : m ≤ c) (hc2 : c ≤ 9223372036854775807) :
    Calls Tryd.prog 36 #[.slice A m c] w (DrewLW w) := by
  go_enter Tryd.func36, Tryd.ntmps36
  go_wp2_with fail
  refine (open_any A c m w hB hm hc hc2).mono ?_
  rintro e w1 ⟨rfl, hR1, hb1⟩
  have hz1 := hb1.size
  go_wp2_with fail
  refine (l20Both_any w.heap.size 0 _ hR1 (by omega)).mono ?_
  rintro e w2 ⟨ls, g, c2, xs, h, d, rfl, hS2, hT2, hl, hx, hR2, hg2⟩
  have hb2 : Below w.heap.size w w2 := hb1.grown hg2 hz1 (fun j hj => by injection hj with hj; omega)
  have HS2 := hide (ownsRow_mono hS2 hz1)
  have HT2 := hide (ownsRow_mono hT2 hz1)
  clear hS2 hT2 hR2 hg2
  go_wp2_with fail
  refine bodyPost_ret (results_tmp2 rfl _ _ _) rfl ⟨ls, g, c2, xs, h, d, rfl, HS2.out, HT2.out, hl, hx, hb2⟩

set_option maxRecDepth 100000 in
set_option maxHeartbeats 1000000 in
theorem drawSpoilLeast_any (A : Option Addr) (c m : Nat) (w : World) (hB : BytesIn w A m) (hm : m ≤ 9223372036854775807) (hc : m ≤ c) (hc2 : c ≤ 9223372036854775807) :
    Calls Tryd.prog 38 #[.slice A m c] w (DrewLW w) := by
  go_enter Tryd.func38, Tryd.ntmps38
  go_wp2_with fail
  refine (open_any A c m w hB hm hc hc2).mono ?_
  rintro e w1 ⟨rfl, hR1, hb1⟩
  have hz1 := hb1.size
  go_wp2_with fail
  refine (l20Both_any w.heap.size 0 _ hR1 (by omega)).mono ?_
  rintro e w2 ⟨ls, g, c2, xs, h, d, rfl, hS2, hT2, hl, hx, hR2, hg2⟩
  have hb2 : Below w.heap.size w w2 := hb1.grown hg2 hz1 (fun j hj => by injection hj with hj; omega)
  have HS2 := hide (ownsRow_mono hS2 hz1)
  have HT2 := hide (ownsRow_mono hT2 hz1)
  clear hS2 hT2 hR2 hg2
  go_wp2_with fail
  refine bodyPost_ret (results_tmp2 rfl _ _ _) rfl ⟨ls, g, c2, xs, h, d, rfl, HS2.out, HT2.out, hl, hx, hb2⟩

set_option maxRecDepth 100000 in
set_option maxHeartbeats 1000000 in
theorem drawLackLeast_any (A : Option Addr) (c m : Nat) (w : World) (hB : BytesIn w A m) (hm : m ≤ 9223372036854775807) (hc : m ≤ c) (hc2 : c ≤ 9223372036854775807) :
    Calls Tryd.prog 41 #[.slice A m c] w (DrewLW w) := by
  go_enter Tryd.func41, Tryd.ntmps41
  go_wp2_with fail
  refine (open_any A c m w hB hm hc hc2).mono ?_
  rintro e w1 ⟨rfl, hR1, hb1⟩
  have hz1 := hb1.size
  go_wp2_with fail
  refine (l20Both_any w.heap.size 0 _ hR1 (by omega)).mono ?_
  rintro e w2 ⟨ls, g, c2, xs, h, d, rfl, hS2, hT2, hl, hx, hR2, hg2⟩
  have hb2 : Below w.heap.size w w2 := hb1.grown hg2 hz1 (fun j hj => by injection hj with hj; omega)
  have HS2 := hide (ownsRow_mono hS2 hz1)
  have HT2 := hide (ownsRow_mono hT2 hz1)
  clear hS2 hT2 hR2 hg2
  go_wp2_with fail
  refine bodyPost_ret (results_tmp2 rfl _ _ _) rfl ⟨ls, g, c2, xs, h, d, rfl, HS2.out, HT2.out, hl, hx, hb2⟩

end Go.Proofs.YtndcanllkmfahaaDoor
