/- Contracts of toPlan, eqPlan and PricesValid; the reading of numbers and plans as a row's arguments.
   Conditions: the bounds in each statement. -/
import Derived.Test.YtdlbcadgomegoaaInts
import Derived.Test.YtdlbcadgomegoaaRead
namespace Go.Proofs.Ytdlbcadgomegoaa
open Go.RowKit

set_option maxHeartbeats 400000 in
theorem toPlan_any (A A' : Option Addr) (c c' : Nat) (xs ys : List Int) (w : World) (h1 : IntsAt w A xs) (h2 : IntsAt w A' ys) (hl : xs.length ≤ 1048576) (hl' : ys.length ≤ 1048576) :
    Calls Try.prog 24 #[.agg #[.slice A xs.length c, .slice A' ys.length c']] w fun e w' => ∃ g, e = .returned (.agg #[.slice (some ⟨w.heap.size + 3, 0, none⟩) xs.length xs.length, .slice (some ⟨g, 0, none⟩) ys.length ys.length]) ∧
      w.heap.size + 3 < g ∧ OwnInts w' (w.heap.size + 3) xs ∧ OwnInts w' g ys ∧ Below w.heap.size w w' := by
  go_enter Try.func24, Try.ntmps24
  go_wp2_with fail
  refine (toIntS_any _ _ _ _ (h1.below (by go_grown)) hl).mono ?_
  rintro e w1 ⟨rfl, hO, hB⟩
  have hO0 := hO.lt
  simp only [World.size_alloc] at hO hB hO0
  have hb2 : Below w.heap.size w w1 := Below.trans (by go_grown) (hB.mono (by omega))
  have hsz2 := hb2.size
  have hc : ∀ b o, b < w.heap.size + 3 → w1.cell? ⟨b, o, none⟩ = _ := fun b o hb => hB.cell (p := ⟨b, o, none⟩) hb
  have hf : ∀ b o, b < w.heap.size + 3 → w1.frozen? ⟨b, o, none⟩ = _ := fun b o hb => hB.frozen (p := ⟨b, o, none⟩) hb
  go_wp2_with fail
  refine (toIntS_any _ _ _ _ (h2.below (by go_grown)) hl').mono ?_
  rintro e w2 ⟨rfl, hO2, hB2⟩
  have hO1 : OwnInts w2 (w.heap.size + 3) xs := (hO.far (Nat.ne_of_gt (by simp)) _).below hB2
  clear hO
  simp only [World.size_setCell] at hB2 hO2
  have hlt3 : w.heap.size + 3 < w1.heap.size := hO0
  have hb3 : Below w.heap.size w w2 := (Below.setCell (p := ⟨w.heap.size + 1 + 1, 0, none⟩) hb2 (by simp; omega) _).trans (hB2.mono hsz2)
  have hsz3 := hb3.size
  have hc2 : ∀ b o, b < w.heap.size + 3 → w2.cell? ⟨b, o, none⟩ = _ := fun b o hb => hB2.cell (p := ⟨b, o, none⟩) (by show b < w1.heap.size; omega)
  have hf2 : ∀ b o, b < w.heap.size + 3 → w2.frozen? ⟨b, o, none⟩ = _ := fun b o hb => hB2.frozen (p := ⟨b, o, none⟩) (by show b < w1.heap.size; omega)
  go_wp2_with fail
  refine bodyPost_ret (v := .agg #[.slice (some ⟨w.heap.size + 3, 0, none⟩) xs.length xs.length, .slice (some ⟨w1.heap.size, 0, none⟩) ys.length ys.length]) (by simp [results, Try.results24, go_sem, hc2, hc]) rfl ⟨w1.heap.size, rfl, hlt3, ?_, ?_, by go_grown⟩
  · exact ((hO1.far (Nat.ne_of_gt (by simp)) _).far (Nat.ne_of_gt (by simp)) _).far (Nat.ne_of_gt (by simp)) _
  · exact ((hO2.far (Nat.ne_of_gt (by simp; omega)) _).far (Nat.ne_of_gt (by simp; omega)) _).far (Nat.ne_of_gt (by simp; omega)) _

set_option maxHeartbeats 400000 in
theorem eqPlan_same (A A' B B' : Option Addr) (c c' d d' : Nat) (xs ys : List Int) (w : World) (h1 : IntsAt w A xs) (h2 : IntsAt w A' ys) (k1 : IntsAt w B xs) (k2 : IntsAt w B' ys) (hl : xs.length ≤ 1048576) (hl' : ys.length ≤ 1048576) :
    Calls Try.prog 12 #[.agg #[.slice A xs.length c, .slice A' ys.length c'], .agg #[.slice B xs.length d, .slice B' ys.length d']] w fun e w' => e = .returned (.bool true) ∧ Below w.heap.size w w' := by
  go_enter Try.func12, Try.ntmps12
  go_wp2_with fail
  refine (eqIntS_same _ _ _ _ _ _ (h1.below (by go_grown)) (k1.below (by go_grown)) hl).mono ?_
  rintro e w1 ⟨rfl, hB⟩
  simp only [World.size_alloc] at hB
  have hb2 : Below w.heap.size w w1 := Below.trans (by go_grown) (hB.mono (by omega))
  have hc : ∀ b o, b < w.heap.size + 2 → w1.cell? ⟨b, o, none⟩ = _ := fun b o hb => hB.cell (p := ⟨b, o, none⟩) hb
  go_wp2_with fail
  refine (eqIntS_same _ _ _ _ _ _ (h2.below hb2) (k2.below hb2) hl').mono ?_
  rintro e w2 ⟨rfl, hB2⟩
  have hb3 := next hb2 hB2
  go_wp2_with fail
  go_ret
  exact ⟨rfl, hb3⟩

def pricesOk (l : List Item) (xs : List Int) : Bool := itemsOk l && (decide ((xs.length : Int) = l.length) && rangeOk 20 xs)

set_option maxHeartbeats 400000 in
theorem implPricesValid_any (A A' : Option Addr) (c c' : Nat) (l : List Item) (xs : List Int) (w : World) (hA : ItemsAt w A l) (hl : l.length ≤ 1048576) (hp : ∀ x ∈ l, x.parts.length ≤ 1048576) (hX : IntsAt w A' xs) (hx : xs.length ≤ 1048576) :
    Calls Try.prog 47 #[.slice A l.length c, .slice A' xs.length c'] w fun e w' => e = .returned (.bool (pricesOk l xs)) ∧ Below w.heap.size w w' := by
  have HP := hide hp
  clear hp
  cases hI : itemsOk l with
  | false =>
    have HI := hide hI
    have HR : Hid (pricesOk l xs = false) := by unfold pricesOk; rw [hI]; exact hide rfl
    clear hI
    go_enter Try.func47, Try.ntmps47
    go_wp2_with fail
    refine (implItemsValid_any _ _ _ _ hA hl HP.out).mono ?_
    rintro e w1 ⟨rfl, hB⟩
    rw [HI.out]
    go_wp2_with fail
    go_ret
    exact ⟨by rw [HR.out]; rfl, hB⟩
  | true =>
    have HI := hide hI
    have HR : Hid (pricesOk l xs = (decide ((xs.length : Int) = l.length) && rangeOk 20 xs)) := by unfold pricesOk; rw [hI]; exact hide rfl
    clear hI
    go_enter Try.func47, Try.ntmps47
    go_wp2_with fail
    refine (implItemsValid_any _ _ _ _ hA hl HP.out).mono ?_
    rintro e w1 ⟨rfl, hB⟩
    rw [HI.out]
    go_wp2_with fail
    refine (allInRange_any _ _ _ _ _ _ (hX.below hB) hx).mono ?_
    rintro e w2 ⟨rfl, hB2⟩
    have hb := next hB hB2
    rw [← HR.out]
    go_wp2_with fail
    go_ret
    exact ⟨rfl, hb⟩

set_option maxHeartbeats 400000 in
theorem specPricesValid_any (A A' : Option Addr) (c c' : Nat) (l : List Item) (xs : List Int) (w : World) (hA : ItemsAt w A l) (hl : l.length ≤ 1048576) (hp : ∀ x ∈ l, x.parts.length ≤ 1048576) (hX : IntsAt w A' xs) (hx : xs.length ≤ 1048576) :
    Calls Try.prog 44 #[.slice A l.length c, .slice A' xs.length c'] w fun e w' => e = .returned (.bool (pricesOk l xs)) ∧ Below w.heap.size w w' := by
  have HP := hide hp
  clear hp
  go_enter Try.func44, Try.ntmps44
  go_wp2_with fail
  go_loopw [5] (fun i wr => ∃ k : Nat, k ≤ xs.length ∧ i = .int .i64 k ∧ Hid (rangeOk 20 xs = rangeOk 20 (xs.drop k)) ∧ Below w.heap.size w wr) (fun i _ => xs.length - (intOf i).toNat)
  case atStart => exact ⟨0, Nat.zero_le _, rfl, hide rfl, Below.refl _ _⟩
  case round =>
    obtain ⟨k, hk, rfl, HG, hb⟩ := hrel
    have hsz := hb.size
    by_cases hlt : k < xs.length
    · obtain ⟨b, off, rfl, hbl, hc1⟩ := (hX.below hb) k xs[k] (List.getElem?_eq_getElem hlt)
      have HD : Hid (xs.drop k = xs[k] :: xs.drop (k + 1)) := hide (List.drop_eq_getElem_cons hlt)
      generalize xs[k] = p at *
      have hz : (0 : Int) ≤ k := by omega
      have hz2 : (k : Int) < xs.length := by omega
      cases hp : inR p 0 20 with
      | false =>
        have HQ := hide hp
        have H3 : Hid (pricesOk l xs = false) := hide (by unfold pricesOk; rw [HG.out, HD.out]; unfold rangeOk; rw [List.all_cons, hp]; simp)
        clear hp
        go_wp2_with fail
        refine (l1In_is _ _ _ _ HQ _).mono ?_
        rintro e w' ⟨rfl, rfl⟩
        go_wp2_with fail
        go_ret
        exact ⟨by rw [H3.out]; rfl, by go_grown⟩
      | true =>
        have HQ := hide hp
        have H3 : Hid (rangeOk 20 xs = rangeOk 20 (xs.drop (k + 1))) := hide (by rw [HG.out, HD.out]; unfold rangeOk; rw [List.all_cons, hp]; rfl)
        clear hp
        go_wp2_with fail
        refine (l1In_is _ _ _ _ HQ _).mono ?_
        rintro e w' ⟨rfl, rfl⟩
        go_wp2_with fail
        go_roundw
        case rel => exact ⟨k + 1, hlt, by go_num, H3, by go_grown⟩
        case measure => simp [intOf]; omega
    · have H3 : Hid (pricesOk l xs = (itemsOk l && ((xs.length : Int) == l.length))) := by
        apply hide
        unfold pricesOk
        rw [HG.out, List.drop_of_length_le (by omega), Bool.eq_iff_iff]
        simp [rangeOk]
      cases hI : itemsOk l with
      | false =>
        have HI := hide hI
        have H4 : Hid (pricesOk l xs = false) := by rw [H3.out, hI]; exact hide rfl
        clear hI
        go_wp2_with fail
        refine (specItemsValid_any _ _ _ _ (hA.below hb) hl HP.out).mono ?_
        rintro e w1 ⟨rfl, hB⟩
        have hb2 := next hb hB
        rw [HI.out]
        go_wp2_with fail
        go_ret
        exact ⟨by rw [H4.out]; rfl, hb2⟩
      | true =>
        have HI := hide hI
        have H4 : Hid (pricesOk l xs = ((xs.length : Int) == l.length)) := by rw [H3.out, hI]; exact hide rfl
        clear hI
        go_wp2_with fail
        refine (specItemsValid_any _ _ _ _ (hA.below hb) hl HP.out).mono ?_
        rintro e w1 ⟨rfl, hB⟩
        have hb2 := next hb hB
        rw [HI.out]
        go_wp2_with fail
        go_ret
        exact ⟨by rw [H4.out]; rfl, hb2⟩
end Go.Proofs.Ytdlbcadgomegoaa
