/- Cooking: valid dishes and spans, burners; contracts of the program and of the reference model.
   Conditions: lists have at most 1048576 elements. -/
import Derived.Test.YthakbacpcpdelaaDoorStock
import Derived.Test.YthakbacpcpdelaaDoorDishes
import Derived.Test.YthakbacpcpdelaaDoorLeast
namespace Go.Proofs.YthakbacpcpdelaaDoor
open Go.RowKit

def dishOk (x : Dish) : Bool := inR x.prep 0 30 && inR x.cook 0 30
def dishesOk (l : List Dish) : Bool := decide (l.length ≤ 6) && l.all dishOk
def spansOk (xs : List Int) : Bool := decide (xs.length ≤ 6) && rangeOk 30 xs

theorem dishesOk_len {l : List Dish} (h : dishesOk l = true) : l.length ≤ 6 := by
  unfold dishesOk at h
  simp at h
  exact h.1
theorem dishesOk_at {l : List Dish} (h : dishesOk l = true) {x : Dish} (hx : x ∈ l) : 0 ≤ x.prep ∧ x.prep ≤ 30 ∧ 0 ≤ x.cook ∧ x.cook ≤ 30 := by
  unfold dishesOk at h
  simp only [Bool.and_eq_true, List.all_eq_true] at h
  have := h.2 x hx
  unfold dishOk at this
  simp only [Bool.and_eq_true, inR_iff] at this
  omega
theorem spansOk_len {l : List Int} (h : spansOk l = true) : l.length ≤ 6 := by
  unfold spansOk at h
  simp at h
  exact h.1
theorem spansOk_range {l : List Int} (h : spansOk l = true) : rangeOk 30 l = true := by
  unfold spansOk at h
  simp only [Bool.and_eq_true] at h
  exact h.2
theorem spansOk_at {l : List Int} (h : spansOk l = true) {i : Nat} {r : Int} (hr : l[i]? = some r) : 0 ≤ r ∧ r ≤ 30 := rangeOk_at (spansOk_range h) hr

set_option maxHeartbeats 400000 in
theorem implDishesValid_any (A : Option Addr) (c : Nat) (l : List Dish) (w : World) (hA : DishesAt w A l) (hl : l.length ≤ 1048576) :
    Calls Tryd.prog 19 #[.slice A l.length c] w fun e w' => e = .returned (.bool (dishesOk l)) ∧ Below w.heap.size w w' := by
  by_cases h6 : l.length ≤ 6
  · have HR : Hid (dishesOk l = l.all dishOk) := by unfold dishesOk; rw [decide_eq_true h6]; exact hide rfl
    go_enter Tryd.func19, Tryd.ntmps19
    go_wp2_with fail
    go_loopw [10] (fun i wr => ∃ k : Nat, k ≤ l.length ∧ i = .int .i64 k ∧ Hid (dishesOk l = (l.drop k).all dishOk) ∧ Below w.heap.size w wr) (fun i _ => l.length - (intOf i).toNat)
    case atStart => exact ⟨0, Nat.zero_le _, rfl, HR, by go_grown⟩
    case round =>
      obtain ⟨k, hk, rfl, HG, hb⟩ := hrel
      have hsz := hb.size
      by_cases hlt : k < l.length
      · obtain ⟨b, off, rfl, hbl, hc1, hc2⟩ := (hA.below hb) k l[k] (List.getElem?_eq_getElem hlt)
        have HD : Hid (l.drop k = l[k] :: l.drop (k + 1)) := hide (List.drop_eq_getElem_cons hlt)
        generalize l[k] = x at *
        have hz : (0 : Int) ≤ k := by omega
        have hz2 : (k : Int) < l.length := by omega
        cases h1 : inR x.prep 0 30 with
        | false =>
          have H1 := hide h1
          have H3 : Hid (dishesOk l = false) := hide (by rw [HG.out, HD.out, List.all_cons]; unfold dishOk; rw [h1]; rfl)
          clear h1
          go_wp2_with fail
          refine (inRange_is _ _ _ _ H1 _).mono ?_
          rintro e w' ⟨rfl, rfl⟩
          go_wp2_with fail
          go_ret
          exact ⟨by rw [H3.out]; rfl, by go_grown⟩
        | true =>
          have H1 := hide h1
          cases h2 : inR x.cook 0 30 with
          | false =>
            have H2 := hide h2
            have H3 : Hid (dishesOk l = false) := hide (by rw [HG.out, HD.out, List.all_cons]; unfold dishOk; rw [h1, h2]; rfl)
            clear h1 h2
            go_wp2_with fail
            refine (inRange_is _ _ _ _ H1 _).mono ?_
            rintro e w' ⟨rfl, rfl⟩
            go_wp2_with fail
            refine (inRange_is _ _ _ _ H2 _).mono ?_
            rintro e w' ⟨rfl, rfl⟩
            go_wp2_with fail
            go_ret
            exact ⟨by rw [H3.out]; rfl, by go_grown⟩
          | true =>
            have H2 := hide h2
            have H3 : Hid (dishesOk l = (l.drop (k + 1)).all dishOk) := hide (by rw [HG.out, HD.out, List.all_cons]; unfold dishOk; rw [h1, h2]; rfl)
            clear h1 h2
            go_wp2_with fail
            refine (inRange_is _ _ _ _ H1 _).mono ?_
            rintro e w' ⟨rfl, rfl⟩
            go_wp2_with fail
            refine (inRange_is _ _ _ _ H2 _).mono ?_
            rintro e w' ⟨rfl, rfl⟩
            go_wp2_with fail
            go_roundw
            case rel => exact ⟨k + 1, hlt, by go_num, H3, by go_grown⟩
            case measure => simp [intOf]; omega
      · have H3 : Hid (dishesOk l = true) := hide (by rw [HG.out, List.drop_of_length_le (by omega)]; rfl)
        go_wp2_with fail
        go_ret
        exact ⟨by rw [H3.out]; rfl, by go_grown⟩
  · have HR : Hid (dishesOk l = false) := by unfold dishesOk; rw [decide_eq_false h6]; exact hide rfl
    go_enter Tryd.func19, Tryd.ntmps19
    go_wp2_with fail
    go_ret
    exact ⟨by rw [HR.out]; rfl, by go_grown⟩

set_option maxHeartbeats 400000 in
theorem specDishesValid_any (A : Option Addr) (c : Nat) (l : List Dish) (w : World) (hA : DishesAt w A l) (hl : l.length ≤ 1048576) :
    Calls Tryd.prog 14 #[.slice A l.length c] w fun e w' => e = .returned (.bool (dishesOk l)) ∧ Below w.heap.size w w' := by
  go_enter Tryd.func14, Tryd.ntmps14
  go_wp2_with fail
  go_loopw [3] (fun i wr => ∃ k : Nat, k ≤ l.length ∧ i = .int .i64 k ∧ Hid (l.all dishOk = (l.drop k).all dishOk) ∧ Below w.heap.size w wr) (fun i _ => l.length - (intOf i).toNat)
  case atStart => exact ⟨0, Nat.zero_le _, rfl, hide rfl, by go_grown⟩
  case round =>
    obtain ⟨k, hk, rfl, HG, hb⟩ := hrel
    have hsz := hb.size
    by_cases hlt : k < l.length
    · obtain ⟨b, off, rfl, hbl, hc1, hc2⟩ := (hA.below hb) k l[k] (List.getElem?_eq_getElem hlt)
      have HD : Hid (l.drop k = l[k] :: l.drop (k + 1)) := hide (List.drop_eq_getElem_cons hlt)
      generalize l[k] = x at *
      have hz : (0 : Int) ≤ k := by omega
      have hz2 : (k : Int) < l.length := by omega
      cases h1 : inR x.prep 0 30 with
      | false =>
        have H1 := hide h1
        have H3 : Hid (dishesOk l = false) := hide (by unfold dishesOk; rw [HG.out, HD.out, List.all_cons]; unfold dishOk; rw [h1]; simp)
        clear h1
        go_wp2_with fail
        refine (l1In_is _ _ _ _ H1 _).mono ?_
        rintro e w' ⟨rfl, rfl⟩
        go_wp2_with fail
        go_ret
        exact ⟨by rw [H3.out]; rfl, by go_grown⟩
      | true =>
        have H1 := hide h1
        cases h2 : inR x.cook 0 30 with
        | false =>
          have H2 := hide h2
          have H3 : Hid (dishesOk l = false) := hide (by unfold dishesOk; rw [HG.out, HD.out, List.all_cons]; unfold dishOk; rw [h1, h2]; simp)
          clear h1 h2
          go_wp2_with fail
          refine (l1In_is _ _ _ _ H1 _).mono ?_
          rintro e w' ⟨rfl, rfl⟩
          go_wp2_with fail
          refine (l1In_is _ _ _ _ H2 _).mono ?_
          rintro e w' ⟨rfl, rfl⟩
          go_wp2_with fail
          go_ret
          exact ⟨by rw [H3.out]; rfl, by go_grown⟩
        | true =>
          have H2 := hide h2
          have H3 : Hid (l.all dishOk = (l.drop (k + 1)).all dishOk) := hide (by rw [HG.out, HD.out, List.all_cons]; unfold dishOk; rw [h1, h2]; rfl)
          clear h1 h2
          go_wp2_with fail
          refine (l1In_is _ _ _ _ H1 _).mono ?_
          rintro e w' ⟨rfl, rfl⟩
          go_wp2_with fail
          refine (l1In_is _ _ _ _ H2 _).mono ?_
          rintro e w' ⟨rfl, rfl⟩
          go_wp2_with fail
          go_roundw
          case rel => exact ⟨k + 1, hlt, by go_num, H3, by go_grown⟩
          case measure => simp [intOf]; omega
    · have H3 : Hid (dishesOk l = decide ((l.length : Int) ≤ 6)) := by
        apply hide
        unfold dishesOk
        rw [HG.out, List.drop_of_length_le (by omega), Bool.eq_iff_iff]
        simp
        omega
      go_wp2_with fail
      go_ret
      exact ⟨by rw [H3.out]; rfl, by go_grown⟩


def burnFit (spans : List Int) (b : Int) : Bool := spansOk spans && inR b 1 3
def burnOkL (spans : List Int) (b : Int) (on : List Int) : Bool := burnFit spans b && (decide ((on.length : Int) = (spans.length : Int)) && rangeOk (b - 1) on)

theorem burnFit_parts {spans : List Int} {b : Int} (h : burnFit spans b = true) : spansOk spans = true ∧ ∃ n : Nat, b = n ∧ 1 ≤ n ∧ n ≤ 3 := by
  unfold burnFit at h
  simp only [Bool.and_eq_true, inR_iff] at h
  exact ⟨h.1, b.toNat, by omega, by omega, by omega⟩

theorem rangeOk_false_at {m : Int} {xs : List Int} {i : Nat} {p : Int} (hp : xs[i]? = some p) (h : inR p 0 m = false) : rangeOk m xs = false := by
  unfold rangeOk
  cases e : xs.all (fun x => inR x 0 m) with
  | false => rfl
  | true => rw [List.all_eq_true.1 e p (List.mem_of_getElem? hp)] at h; cases h

end Go.Proofs.YthakbacpcpdelaaDoor
