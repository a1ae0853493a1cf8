/- Contracts of toPlan, eqPlan and PricesValid; the reading of numbers and plans as a row's arguments.
   Conditions: the bounds in each statement. -/
import Derived.Test.YteloapholoechaaInts
import Derived.Test.YteloapholoechaaRead
namespace Go.Proofs.Yteloapholoechaa
open Go.RowKit

set_option maxHeartbeats 400000 in
theorem toPlan_any (A A' : Option Addr) (c c' : Nat) (xs ys : List Int) (w : World) (h1 : IntsAt w A xs) (h2 : IntsAt w A' ys) (hl : xs.length ≤ 1048576) (hl' : ys.length ≤ 1048576) :
    Calls Try.prog 19 #[.agg #[.slice A xs.length c, .slice A' ys.length c']] w fun e w' => ∃ g, e = .returned (.agg #[.slice (some ⟨w.heap.size + 3, 0, none⟩) xs.length xs.length, .slice (some ⟨g, 0, none⟩) ys.length ys.length]) ∧
      w.heap.size + 3 < g ∧ OwnInts w' (w.heap.size + 3) xs ∧ OwnInts w' g ys ∧ Below w.heap.size w w' := by
  go_enter Try.func19, Try.ntmps19
  go_wp2_with fail
  refine (toIntS_any _ _ _ _ (h1.below (by go_grown)) hl).mono ?_
  rintro e w1 ⟨rfl, hO, hB⟩
  have hO0 := hO.lt
  simp only [World.size_alloc] at hO hB hO0
  have hb2 : Below w.heap.size w w1 := Below.trans (by go_grown) (hB.mono (by omega))
  have hsz2 := hb2.size
  have hc : ∀ b o, b < w.heap.size + 3 → w1.cell? ⟨b, o, none⟩ = _ := fun b o hb => hB.cell (p := ⟨b, o, none⟩) hb
  have hf : ∀ b o, b < w.heap.size + 3 → w1.frozen? ⟨b, o, none⟩ = _ := fun b o hb => hB.frozen (p := ⟨b, o, none⟩) hb
  go_wp2_with fail
  refine (toIntS_any _ _ _ _ (h2.below (by go_grown)) hl').mono ?_
  rintro e w2 ⟨rfl, hO2, hB2⟩
  have hO1 : OwnInts w2 (w.heap.size + 3) xs := (hO.far (Nat.ne_of_gt (by simp)) _).below hB2
  clear hO
  simp only [World.size_setCell] at hB2 hO2
  have hlt3 : w.heap.size + 3 < w1.heap.size := hO0
  have hb3 : Below w.heap.size w w2 := (Below.setCell (p := ⟨w.heap.size + 1 + 1, 0, none⟩) hb2 (by simp; omega) _).trans (hB2.mono hsz2)
  have hsz3 := hb3.size
  have hc2 : ∀ b o, b < w.heap.size + 3 → w2.cell? ⟨b, o, none⟩ = _ := fun b o hb => hB2.cell (p := ⟨b, o, none⟩) (by show b < w1.heap.size; omega)
  have hf2 : ∀ b o, b < w.heap.size + 3 → w2.frozen? ⟨b, o, none⟩ = _ := fun b o hb => hB2.frozen (p := ⟨b, o, none⟩) (by show b < w1.heap.size; omega)
  go_wp2_with fail
  refine bodyPost_ret (v := .agg #[.slice (some ⟨w.heap.size + 3, 0, none⟩) xs.length xs.length, .slice (some ⟨w1.heap.size, 0, none⟩) ys.length ys.length]) (by simp [results, Try.results19, go_sem, hc2, hc]) rfl ⟨w1.heap.size, rfl, hlt3, ?_, ?_, by go_grown⟩
  · exact ((hO1.far (Nat.ne_of_gt (by simp)) _).far (Nat.ne_of_gt (by simp)) _).far (Nat.ne_of_gt (by simp)) _
  · exact ((hO2.far (Nat.ne_of_gt (by simp; omega)) _).far (Nat.ne_of_gt (by simp; omega)) _).far (Nat.ne_of_gt (by simp; omega)) _

set_option maxHeartbeats 400000 in
theorem eqPlan_same (A A' B B' : Option Addr) (c c' d d' : Nat) (xs ys : List Int) (w : World) (h1 : IntsAt w A xs) (h2 : IntsAt w A' ys) (k1 : IntsAt w B xs) (k2 : IntsAt w B' ys) (hl : xs.length ≤ 1048576) (hl' : ys.length ≤ 1048576) :
    Calls Try.prog 10 #[.agg #[.slice A xs.length c, .slice A' ys.length c'], .agg #[.slice B xs.length d, .slice B' ys.length d']] w fun e w' => e = .returned (.bool true) ∧ Below w.heap.size w w' := by
  go_enter Try.func10, Try.ntmps10
  go_wp2_with fail
  refine (eqIntS_same _ _ _ _ _ _ (h1.below (by go_grown)) (k1.below (by go_grown)) hl).mono ?_
  rintro e w1 ⟨rfl, hB⟩
  simp only [World.size_alloc] at hB
  have hb2 : Below w.heap.size w w1 := Below.trans (by go_grown) (hB.mono (by omega))
  have hc : ∀ b o, b < w.heap.size + 2 → w1.cell? ⟨b, o, none⟩ = _ := fun b o hb => hB.cell (p := ⟨b, o, none⟩) hb
  go_wp2_with fail
  refine (eqIntS_same _ _ _ _ _ _ (h2.below hb2) (k2.below hb2) hl').mono ?_
  rintro e w2 ⟨rfl, hB2⟩
  have hb3 := next hb2 hB2
  go_wp2_with fail
  go_ret
  exact ⟨rfl, hb3⟩

def pricesOk (l : List Item) (xs : List Int) : Bool := itemsOk l && (decide ((xs.length : Int) = l.length) && rangeOk 20 xs)

end Go.Proofs.Yteloapholoechaa
