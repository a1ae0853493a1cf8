/- The draw of a kitchen and a number of pieces of work.
   Conditions: the bounds in each statement. -/
import Derived.Test.YthmpopdoihlfdaaDoorDrawKitK
namespace Go.Proofs.YthmpopdoihlfdaaDoor
open Go.RowKit Go.ChangeShapes Go.WideShapes Go.ChangeAt Go.Deep

def DrawnRun (w : World) (e : Ending) (w' : World) : Prop := ∃ (l : List (List Order)) (g c : Nat) (most : Int), e = .returned (.tuple #[.slice (some ⟨g, 0, none⟩) l.length c, .int .i64 most]) ∧ TickSl w' w.heap.size (.slice (some ⟨g, 0, none⟩) l.length c) l ∧ l.length ≤ 5 ∧ (∀ x ∈ l, x.length ≤ 7) ∧ Below w.heap.size w w' ∧ -1000 ≤ most ∧ most ≤ 1000

set_option maxHeartbeats 1000000 in
theorem drawWorkRun_any (A : Option Addr) (c m : Nat) (w : World) (hB : BytesIn w A m) (hm : m ≤ 9223372036854775807) (hc : m ≤ c) (hc2 : c ≤ 9223372036854775807) :
    Calls Tryd.prog 50 #[.slice A m c] w (DrawnRun w) := by
  go_enter Tryd.func50, Tryd.ntmps50
  go_wp2_with fail
  refine (open_any A c m w hB hm hc hc2).mono ?_
  rintro e w1 ⟨rfl, hR1, hb1⟩
  have hz1 := hb1.size
  have hlt1 := hR1.lt
  go_wp2_with fail
  refine (l20Kitchen_any w.heap.size 0 9 _ hR1 (by omega) (by omega)).mono ?_
  rintro e w2 ⟨l, g, c2, rfl, hS2, hl5, hx7, hR2, hg2⟩
  have hb2 : Below w.heap.size w w2 := hb1.grown hg2 hz1 (fun j hj => by injection hj with hj; omega)
  have HS2 := hide hS2
  have HX := hide hx7
  clear hg2 hS2 hx7
  go_wp2_with fail
  refine (pick_any w.heap.size _ 40 _ hR2 (by omega) (by omega)).mono ?_
  rintro e w3 ⟨v1, rfl, h10, h11, hR3, hg3⟩
  have hv1 : v1 ≤ 39 := by omega
  go_wp2_with fail
  refine (pick_any w.heap.size _ 20 _ hR3 (by omega) (by omega)).mono ?_
  rintro e w4 ⟨v2, rfl, h20, h21, hR4, hg4⟩
  have hv2 : v2 ≤ 19 := by omega
  have hq2 : 0 ≤ v2 / 19 ∧ v2 / 19 ≤ 1 := by omega
  obtain ⟨hq20, hq21⟩ := hq2
  go_wp2_with fail
  refine (pick_any w.heap.size _ 20 _ hR4 (by omega) (by omega)).mono ?_
  rintro e w5 ⟨v3, rfl, h30, h31, hR5, hg5⟩
  have hv3 : v3 ≤ 19 := by omega
  have hq3 : 0 ≤ v3 / 19 ∧ v3 / 19 ≤ 1 := by omega
  obtain ⟨hq30, hq31⟩ := hq3
  have hG : w2.grownBy w5 (some w.heap.size) := (hg3.trans hg4).trans hg5
  have hb5 : Below w.heap.size w w5 := hb2.grown hG hb2.size (fun j hj => by injection hj with hj; omega)
  have HS5 := hide ((HS2.out.grown hG hlt1).mono hz1)
  clear hG hR3 hg3 hR2 hg4 hg5 hR4 hR5
  go_wp2_with fail
  refine bodyPost_ret (v := .tuple #[.slice (some ⟨g, 0, none⟩) l.length c2, .int .i64 (v1 + v2 / 19 * 70 - v3 / 19 * 80)]) (by simp [results, Tryd.results50, go_sem]) rfl ⟨l, g, c2, _, rfl, HS5.out, hl5, HX.out, hb5, by omega, by omega⟩
end Go.Proofs.YthmpopdoihlfdaaDoor
