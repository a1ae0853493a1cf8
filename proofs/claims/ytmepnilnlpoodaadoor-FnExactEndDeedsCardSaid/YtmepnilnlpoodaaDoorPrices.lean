/- Contracts of toPlan, eqPlan and PricesValid; the reading of numbers and plans as a row's arguments.
   Conditions: the bounds in each statement. -/
import Derived.Test.YtmepnilnlpoodaaDoorInts
import Derived.Test.YtmepnilnlpoodaaDoorRead
namespace Go.Proofs.YtmepnilnlpoodaaDoor
open Go.RowKit

def pricesOk (l : List Item) (xs : List Int) : Bool := itemsOk l && (decide ((xs.length : Int) = l.length) && rangeOk 20 xs)

set_option maxHeartbeats 400000 in
theorem implPricesValid_any (A A' : Option Addr) (c c' : Nat) (l : List Item) (xs : List Int) (w : World) (hA : ItemsAt w A l) (hl : l.length ≤ 1048576) (hp : ∀ x ∈ l, x.parts.length ≤ 1048576) (hX : IntsAt w A' xs) (hx : xs.length ≤ 1048576) :
    Calls Tryd.prog 72 #[.slice A l.length c, .slice A' xs.length c'] w fun e w' => e = .returned (.bool (pricesOk l xs)) ∧ Below w.heap.size w w' := by
  have HP := hide hp
  clear hp
  cases hI : itemsOk l with
  | false =>
    have HI := hide hI
    have HR : Hid (pricesOk l xs = false) := by unfold pricesOk; rw [hI]; exact hide rfl
    clear hI
    go_enter Tryd.func72, Tryd.ntmps72
    go_wp2_with fail
    refine (implItemsValid_any _ _ _ _ hA hl HP.out).mono ?_
    rintro e w1 ⟨rfl, hB⟩
    rw [HI.out]
    go_wp2_with fail
    go_ret
    exact ⟨by rw [HR.out]; rfl, hB⟩
  | true =>
    have HI := hide hI
    have HR : Hid (pricesOk l xs = (decide ((xs.length : Int) = l.length) && rangeOk 20 xs)) := by unfold pricesOk; rw [hI]; exact hide rfl
    clear hI
    go_enter Tryd.func72, Tryd.ntmps72
    go_wp2_with fail
    refine (implItemsValid_any _ _ _ _ hA hl HP.out).mono ?_
    rintro e w1 ⟨rfl, hB⟩
    rw [HI.out]
    go_wp2_with fail
    refine (allInRange_any _ _ _ _ _ _ (hX.below hB) hx).mono ?_
    rintro e w2 ⟨rfl, hB2⟩
    have hb := next hB hB2
    rw [← HR.out]
    go_wp2_with fail
    go_ret
    exact ⟨rfl, hb⟩

set_option maxHeartbeats 400000 in
theorem specPricesValid_any (A A' : Option Addr) (c c' : Nat) (l : List Item) (xs : List Int) (w : World) (hA : ItemsAt w A l) (hl : l.length ≤ 1048576) (hp : ∀ x ∈ l, x.parts.length ≤ 1048576) (hX : IntsAt w A' xs) (hx : xs.length ≤ 1048576) :
    Calls Tryd.prog 64 #[.slice A l.length c, .slice A' xs.length c'] w fun e w' => e = .returned (.bool (pricesOk l xs)) ∧ Below w.heap.size w w' := by
  have HP := hide hp
  clear hp
  go_enter Tryd.func64, Tryd.ntmps64
  go_wp2_with fail
  go_loopw [5] (fun i wr => ∃ k : Nat, k ≤ xs.length ∧ i = .int .i64 k ∧ Hid (rangeOk 20 xs = rangeOk 20 (xs.drop k)) ∧ Below w.heap.size w wr) (fun i _ => xs.length - (intOf i).toNat)
  case atStart => exact ⟨0, Nat.zero_le _, rfl, hide rfl, Below.refl _ _⟩
  case round =>
    obtain ⟨k, hk, rfl, HG, hb⟩ := hrel
    have hsz := hb.size
    by_cases hlt : k < xs.length
    · obtain ⟨b, off, rfl, hbl, hc1⟩ := (hX.below hb) k xs[k] (List.getElem?_eq_getElem hlt)
      have HD : Hid (xs.drop k = xs[k] :: xs.drop (k + 1)) := hide (List.drop_eq_getElem_cons hlt)
      generalize xs[k] = p at *
      have hz : (0 : Int) ≤ k := by omega
      have hz2 : (k : Int) < xs.length := by omega
      cases hp : inR p 0 20 with
      | false =>
        have HQ := hide hp
        have H3 : Hid (pricesOk l xs = false) := hide (by unfold pricesOk; rw [HG.out, HD.out]; unfold rangeOk; rw [List.all_cons, hp]; simp)
        clear hp
        go_wp2_with fail
        refine (l1In_is _ _ _ _ HQ _).mono ?_
        rintro e w' ⟨rfl, rfl⟩
        go_wp2_with fail
        go_ret
        exact ⟨by rw [H3.out]; rfl, by go_grown⟩
      | true =>
        have HQ := hide hp
        have H3 : Hid (rangeOk 20 xs = rangeOk 20 (xs.drop (k + 1))) := hide (by rw [HG.out, HD.out]; unfold rangeOk; rw [List.all_cons, hp]; rfl)
        clear hp
        go_wp2_with fail
        refine (l1In_is _ _ _ _ HQ _).mono ?_
        rintro e w' ⟨rfl, rfl⟩
        go_wp2_with fail
        go_roundw
        case rel => exact ⟨k + 1, hlt, by go_num, H3, by go_grown⟩
        case measure => simp [intOf]; omega
    · have H3 : Hid (pricesOk l xs = (itemsOk l && ((xs.length : Int) == l.length))) := by
        apply hide
        unfold pricesOk
        rw [HG.out, List.drop_of_length_le (by omega), Bool.eq_iff_iff]
        simp [rangeOk]
      cases hI : itemsOk l with
      | false =>
        have HI := hide hI
        have H4 : Hid (pricesOk l xs = false) := by rw [H3.out, hI]; exact hide rfl
        clear hI
        go_wp2_with fail
        refine (specItemsValid_any _ _ _ _ (hA.below hb) hl HP.out).mono ?_
        rintro e w1 ⟨rfl, hB⟩
        have hb2 := next hb hB
        rw [HI.out]
        go_wp2_with fail
        go_ret
        exact ⟨by rw [H4.out]; rfl, hb2⟩
      | true =>
        have HI := hide hI
        have H4 : Hid (pricesOk l xs = ((xs.length : Int) == l.length)) := by rw [H3.out, hI]; exact hide rfl
        clear hI
        go_wp2_with fail
        refine (specItemsValid_any _ _ _ _ (hA.below hb) hl HP.out).mono ?_
        rintro e w1 ⟨rfl, hB⟩
        have hb2 := next hb hB
        rw [HI.out]
        go_wp2_with fail
        go_ret
        exact ⟨by rw [H4.out]; rfl, hb2⟩
end Go.Proofs.YtmepnilnlpoodaaDoor
