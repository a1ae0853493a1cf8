/- Cooking: valid dishes and spans, burners; contracts of the program and of the reference model.
   Conditions: lists have at most 1048576 elements. -/
import Derived.Test.YteloapholoechaaDoorStock
import Derived.Test.YteloapholoechaaDoorDishes
import Derived.Test.YteloapholoechaaDoorLeast
namespace Go.Proofs.YteloapholoechaaDoor
open Go.RowKit

def dishOk (x : Dish) : Bool := inR x.prep 0 30 && inR x.cook 0 30
def dishesOk (l : List Dish) : Bool := decide (l.length ≤ 6) && l.all dishOk
def spansOk (xs : List Int) : Bool := decide (xs.length ≤ 6) && rangeOk 30 xs

theorem dishesOk_len {l : List Dish} (h : dishesOk l = true) : l.length ≤ 6 := by
  unfold dishesOk at h
  simp at h
  exact h.1
theorem dishesOk_at {l : List Dish} (h : dishesOk l = true) {x : Dish} (hx : x ∈ l) : 0 ≤ x.prep ∧ x.prep ≤ 30 ∧ 0 ≤ x.cook ∧ x.cook ≤ 30 := by
  unfold dishesOk at h
  simp only [Bool.and_eq_true, List.all_eq_true] at h
  have := h.2 x hx
  unfold dishOk at this
  simp only [Bool.and_eq_true, inR_iff] at this
  omega
theorem spansOk_len {l : List Int} (h : spansOk l = true) : l.length ≤ 6 := by
  unfold spansOk at h
  simp at h
  exact h.1
theorem spansOk_range {l : List Int} (h : spansOk l = true) : rangeOk 30 l = true := by
  unfold spansOk at h
  simp only [Bool.and_eq_true] at h
  exact h.2
theorem spansOk_at {l : List Int} (h : spansOk l = true) {i : Nat} {r : Int} (hr : l[i]? = some r) : 0 ≤ r ∧ r ≤ 30 := rangeOk_at (spansOk_range h) hr

set_option maxHeartbeats 400000 in
theorem implDishesValid_any (A : Option Addr) (c : Nat) (l : List Dish) (w : World) (hA : DishesAt w A l) (hl : l.length ≤ 1048576) :
    Calls Tryd.prog 66 #[.slice A l.length c] w fun e w' => e = .returned (.bool (dishesOk l)) ∧ Below w.heap.size w w' := by
  by_cases h6 : l.length ≤ 6
  · have HR : Hid (dishesOk l = l.all dishOk) := by unfold dishesOk; rw [decide_eq_true h6]; exact hide rfl
    go_enter Tryd.func66, Tryd.ntmps66
    go_wp2_with fail
    go_loopw [10] (fun i wr => ∃ k : Nat, k ≤ l.length ∧ i = .int .i64 k ∧ Hid (dishesOk l = (l.drop k).all dishOk) ∧ Below w.heap.size w wr) (fun i _ => l.length - (intOf i).toNat)
    case atStart => exact ⟨0, Nat.zero_le _, rfl, HR, by go_grown⟩
    case round =>
      obtain ⟨k, hk, rfl, HG, hb⟩ := hrel
      have hsz := hb.size
      by_cases hlt : k < l.length
      · obtain ⟨b, off, rfl, hbl, hc1, hc2⟩ := (hA.below hb) k l[k] (List.getElem?_eq_getElem hlt)
        have HD : Hid (l.drop k = l[k] :: l.drop (k + 1)) := hide (List.drop_eq_getElem_cons hlt)
        generalize l[k] = x at *
        have hz : (0 : Int) ≤ k := by omega
        have hz2 : (k : Int) < l.length := by omega
        cases h1 : inR x.prep 0 30 with
        | false =>
          have H1 := hide h1
          have H3 : Hid (dishesOk l = false) := hide (by rw [HG.out, HD.out, List.all_cons]; unfold dishOk; rw [h1]; rfl)
          clear h1
          go_wp2_with fail
          refine (inRange_is _ _ _ _ H1 _).mono ?_
          rintro e w' ⟨rfl, rfl⟩
          go_wp2_with fail
          go_ret
          exact ⟨by rw [H3.out]; rfl, by go_grown⟩
        | true =>
          have H1 := hide h1
          cases h2 : inR x.cook 0 30 with
          | false =>
            have H2 := hide h2
            have H3 : Hid (dishesOk l = false) := hide (by rw [HG.out, HD.out, List.all_cons]; unfold dishOk; rw [h1, h2]; rfl)
            clear h1 h2
            go_wp2_with fail
            refine (inRange_is _ _ _ _ H1 _).mono ?_
            rintro e w' ⟨rfl, rfl⟩
            go_wp2_with fail
            refine (inRange_is _ _ _ _ H2 _).mono ?_
            rintro e w' ⟨rfl, rfl⟩
            go_wp2_with fail
            go_ret
            exact ⟨by rw [H3.out]; rfl, by go_grown⟩
          | true =>
            have H2 := hide h2
            have H3 : Hid (dishesOk l = (l.drop (k + 1)).all dishOk) := hide (by rw [HG.out, HD.out, List.all_cons]; unfold dishOk; rw [h1, h2]; rfl)
            clear h1 h2
            go_wp2_with fail
            refine (inRange_is _ _ _ _ H1 _).mono ?_
            rintro e w' ⟨rfl, rfl⟩
            go_wp2_with fail
            refine (inRange_is _ _ _ _ H2 _).mono ?_
            rintro e w' ⟨rfl, rfl⟩
            go_wp2_with fail
            go_roundw
            case rel => exact ⟨k + 1, hlt, by go_num, H3, by go_grown⟩
            case measure => simp [intOf]; omega
      · have H3 : Hid (dishesOk l = true) := hide (by rw [HG.out, List.drop_of_length_le (by omega)]; rfl)
        go_wp2_with fail
        go_ret
        exact ⟨by rw [H3.out]; rfl, by go_grown⟩
  · have HR : Hid (dishesOk l = false) := by unfold dishesOk; rw [decide_eq_false h6]; exact hide rfl
    go_enter Tryd.func66, Tryd.ntmps66
    go_wp2_with fail
    go_ret
    exact ⟨by rw [HR.out]; rfl, by go_grown⟩

set_option maxHeartbeats 400000 in
theorem specDishesValid_any (A : Option Addr) (c : Nat) (l : List Dish) (w : World) (hA : DishesAt w A l) (hl : l.length ≤ 1048576) :
    Calls Tryd.prog 23 #[.slice A l.length c] w fun e w' => e = .returned (.bool (dishesOk l)) ∧ Below w.heap.size w w' := by
  go_enter Tryd.func23, Tryd.ntmps23
  go_wp2_with fail
  go_loopw [3] (fun i wr => ∃ k : Nat, k ≤ l.length ∧ i = .int .i64 k ∧ Hid (l.all dishOk = (l.drop k).all dishOk) ∧ Below w.heap.size w wr) (fun i _ => l.length - (intOf i).toNat)
  case atStart => exact ⟨0, Nat.zero_le _, rfl, hide rfl, by go_grown⟩
  case round =>
    obtain ⟨k, hk, rfl, HG, hb⟩ := hrel
    have hsz := hb.size
    by_cases hlt : k < l.length
    · obtain ⟨b, off, rfl, hbl, hc1, hc2⟩ := (hA.below hb) k l[k] (List.getElem?_eq_getElem hlt)
      have HD : Hid (l.drop k = l[k] :: l.drop (k + 1)) := hide (List.drop_eq_getElem_cons hlt)
      generalize l[k] = x at *
      have hz : (0 : Int) ≤ k := by omega
      have hz2 : (k : Int) < l.length := by omega
      cases h1 : inR x.prep 0 30 with
      | false =>
        have H1 := hide h1
        have H3 : Hid (dishesOk l = false) := hide (by unfold dishesOk; rw [HG.out, HD.out, List.all_cons]; unfold dishOk; rw [h1]; simp)
        clear h1
        go_wp2_with fail
        refine (l1In_is _ _ _ _ H1 _).mono ?_
        rintro e w' ⟨rfl, rfl⟩
        go_wp2_with fail
        go_ret
        exact ⟨by rw [H3.out]; rfl, by go_grown⟩
      | true =>
        have H1 := hide h1
        cases h2 : inR x.cook 0 30 with
        | false =>
          have H2 := hide h2
          have H3 : Hid (dishesOk l = false) := hide (by unfold dishesOk; rw [HG.out, HD.out, List.all_cons]; unfold dishOk; rw [h1, h2]; simp)
          clear h1 h2
          go_wp2_with fail
          refine (l1In_is _ _ _ _ H1 _).mono ?_
          rintro e w' ⟨rfl, rfl⟩
          go_wp2_with fail
          refine (l1In_is _ _ _ _ H2 _).mono ?_
          rintro e w' ⟨rfl, rfl⟩
          go_wp2_with fail
          go_ret
          exact ⟨by rw [H3.out]; rfl, by go_grown⟩
        | true =>
          have H2 := hide h2
          have H3 : Hid (l.all dishOk = (l.drop (k + 1)).all dishOk) := hide (by rw [HG.out, HD.out, List.all_cons]; unfold dishOk; rw [h1, h2]; rfl)
          clear h1 h2
          go_wp2_with fail
          refine (l1In_is _ _ _ _ H1 _).mono ?_
          rintro e w' ⟨rfl, rfl⟩
          go_wp2_with fail
          refine (l1In_is _ _ _ _ H2 _).mono ?_
          rintro e w' ⟨rfl, rfl⟩
          go_wp2_with fail
          go_roundw
          case rel => exact ⟨k + 1, hlt, by go_num, H3, by go_grown⟩
          case measure => simp [intOf]; omega
    · have H3 : Hid (dishesOk l = decide ((l.length : Int) ≤ 6)) := by
        apply hide
        unfold dishesOk
        rw [HG.out, List.drop_of_length_le (by omega), Bool.eq_iff_iff]
        simp
        omega
      go_wp2_with fail
      go_ret
      exact ⟨by rw [H3.out]; rfl, by go_grown⟩


set_option maxHeartbeats 400000 in
theorem implSpansValid_any (A : Option Addr) (c : Nat) (xs : List Int) (w : World) (hA : IntsAt w A xs) (hl : xs.length ≤ 1048576) :
    Calls Tryd.prog 102 #[.slice A xs.length c] w fun e w' => e = .returned (.bool (spansOk xs)) ∧ Below w.heap.size w w' := by
  by_cases h6 : xs.length ≤ 6
  · have HR : Hid (spansOk xs = rangeOk 30 xs) := by unfold spansOk; rw [decide_eq_true h6]; exact hide rfl
    have hd : decide ((xs.length : Int) ≤ 6) = true := decide_eq_true (by omega)
    go_enter Tryd.func102, Tryd.ntmps102
    go_wp2_with fail
    refine (allInRange_self _ _ _ _ _ hA hl).mono ?_
    rintro e w1 ⟨rfl, hB⟩
    go_wp2_with fail
    go_ret
    exact ⟨by rw [HR.out]; rfl, hB⟩
  · have HR : Hid (spansOk xs = false) := by unfold spansOk; rw [decide_eq_false h6]; exact hide rfl
    have hd : decide ((xs.length : Int) ≤ 6) = false := decide_eq_false (by omega)
    go_enter Tryd.func102, Tryd.ntmps102
    go_wp2_with fail
    go_ret
    exact ⟨by rw [HR.out]; rfl, by go_grown⟩

set_option maxHeartbeats 400000 in
theorem specSpansValid_any (A : Option Addr) (c : Nat) (xs : List Int) (w : World) (hA : IntsAt w A xs) (hl : xs.length ≤ 1048576) :
    Calls Tryd.prog 35 #[.slice A xs.length c] w fun e w' => e = .returned (.bool (spansOk xs)) ∧ Below w.heap.size w w' := by
  go_enter Tryd.func35, Tryd.ntmps35
  go_wp2_with fail
  go_loopw [3] (fun i wr => ∃ k : Nat, k ≤ xs.length ∧ i = .int .i64 k ∧ Hid (rangeOk 30 xs = rangeOk 30 (xs.drop k)) ∧ Below w.heap.size w wr) (fun i _ => xs.length - (intOf i).toNat)
  case atStart => exact ⟨0, Nat.zero_le _, rfl, hide rfl, by go_grown⟩
  case round =>
    obtain ⟨k, hk, rfl, HG, hb⟩ := hrel
    have hsz := hb.size
    by_cases hlt : k < xs.length
    · obtain ⟨b, off, rfl, hbl, hc1⟩ := (hA.below hb) k xs[k] (List.getElem?_eq_getElem hlt)
      have HD : Hid (xs.drop k = xs[k] :: xs.drop (k + 1)) := hide (List.drop_eq_getElem_cons hlt)
      generalize xs[k] = p at *
      have hz : (0 : Int) ≤ k := by omega
      have hz2 : (k : Int) < xs.length := by omega
      cases hp : inR p 0 30 with
      | false =>
        have HQ := hide hp
        have H3 : Hid (spansOk xs = false) := hide (by unfold spansOk; rw [HG.out, HD.out]; unfold rangeOk; rw [List.all_cons, hp]; simp)
        clear hp
        go_wp2_with fail
        refine (l1In_is _ _ _ _ HQ _).mono ?_
        rintro e w' ⟨rfl, rfl⟩
        go_wp2_with fail
        go_ret
        exact ⟨by rw [H3.out]; rfl, by go_grown⟩
      | true =>
        have HQ := hide hp
        have H3 : Hid (rangeOk 30 xs = rangeOk 30 (xs.drop (k + 1))) := hide (by rw [HG.out, HD.out]; unfold rangeOk; rw [List.all_cons, hp]; rfl)
        clear hp
        go_wp2_with fail
        refine (l1In_is _ _ _ _ HQ _).mono ?_
        rintro e w' ⟨rfl, rfl⟩
        go_wp2_with fail
        go_roundw
        case rel => exact ⟨k + 1, hlt, by go_num, H3, by go_grown⟩
        case measure => simp [intOf]; omega
    · have H3 : Hid (spansOk xs = decide ((xs.length : Int) ≤ 6)) := by
        apply hide
        unfold spansOk
        rw [HG.out, List.drop_of_length_le (by omega), Bool.eq_iff_iff]
        simp [rangeOk]
        omega
      go_wp2_with fail
      go_ret
      exact ⟨by rw [H3.out]; rfl, by go_grown⟩


def burnFit (spans : List Int) (b : Int) : Bool := spansOk spans && inR b 1 3
def burnOkL (spans : List Int) (b : Int) (on : List Int) : Bool := burnFit spans b && (decide ((on.length : Int) = (spans.length : Int)) && rangeOk (b - 1) on)

theorem burnFit_parts {spans : List Int} {b : Int} (h : burnFit spans b = true) : spansOk spans = true ∧ ∃ n : Nat, b = n ∧ 1 ≤ n ∧ n ≤ 3 := by
  unfold burnFit at h
  simp only [Bool.and_eq_true, inR_iff] at h
  exact ⟨h.1, b.toNat, by omega, by omega, by omega⟩

set_option maxHeartbeats 400000 in
theorem burnFits_any (A : Option Addr) (c : Nat) (xs : List Int) (b : Int) (w : World) (hA : IntsAt w A xs) (hl : xs.length ≤ 1048576) :
    Calls Tryd.prog 74 #[.slice A xs.length c, .int .i64 b] w fun e w' => e = .returned (.bool (burnFit xs b)) ∧ Below w.heap.size w w' := by
  cases hI : spansOk xs with
  | false =>
    have HI := hide hI
    have H3 : Hid (burnFit xs b = false) := hide (by unfold burnFit; rw [hI]; rfl)
    clear hI
    go_enter Tryd.func74, Tryd.ntmps74
    go_wp2_with fail
    refine (implSpansValid_any _ _ _ _ hA hl).mono ?_
    rintro e w1 ⟨rfl, hB⟩
    rw [HI.out]
    go_wp2_with fail
    go_ret
    exact ⟨by rw [H3.out]; rfl, hB⟩
  | true =>
    have HI := hide hI
    obtain ⟨q, hq⟩ : ∃ q, inR b 1 3 = q := ⟨_, rfl⟩
    have HQ := hide hq
    have H3 : Hid (burnFit xs b = q) := hide (by unfold burnFit; rw [hI, hq]; rfl)
    clear hI hq
    go_enter Tryd.func74, Tryd.ntmps74
    go_wp2_with fail
    refine (implSpansValid_any _ _ _ _ hA hl).mono ?_
    rintro e w1 ⟨rfl, hB⟩
    rw [HI.out]
    go_wp2_with fail
    refine (inRange_is _ _ _ _ HQ _).mono ?_
    rintro e w2 ⟨rfl, rfl⟩
    go_wp2_with fail
    go_ret
    exact ⟨by rw [H3.out]; rfl, hB⟩

set_option maxHeartbeats 400000 in
theorem implBurnOk_any (A B : Option Addr) (c d : Nat) (xs : List Int) (b : Int) (on : List Int) (w : World) (hA : IntsAt w A xs) (hl : xs.length ≤ 1048576) (hB : IntsAt w B on) (hm : on.length ≤ 1048576) :
    Calls Tryd.prog 36 #[.slice A xs.length c, .int .i64 b, .slice B on.length d] w fun e w' => e = .returned (.bool (burnOkL xs b on)) ∧ Below w.heap.size w w' := by
  cases hI : burnFit xs b with
  | false =>
    have HI := hide hI
    have H3 : Hid (burnOkL xs b on = false) := hide (by unfold burnOkL; rw [hI]; rfl)
    clear hI
    go_enter Tryd.func36, Tryd.ntmps36
    go_wp2_with fail
    refine (burnFits_any _ _ _ _ _ hA hl).mono ?_
    rintro e w1 ⟨rfl, hB1⟩
    rw [HI.out]
    go_wp2_with fail
    go_ret
    exact ⟨by rw [H3.out]; rfl, hB1⟩
  | true =>
    have HI := hide hI
    obtain ⟨n, rfl, hn1, hn3⟩ := (burnFit_parts hI).2
    have hw1 : IntKind.i64.wrap ((n : Int) - 1) = (n : Int) - 1 := IntWalk.i64_in _ (by omega)
    have H3 : Hid (burnOkL xs n on = (decide ((on.length : Int) = (xs.length : Int)) && rangeOk ((n : Int) - 1) on)) := hide (by unfold burnOkL; rw [hI]; rfl)
    clear hI
    go_enter Tryd.func36, Tryd.ntmps36
    go_wp2_with fail
    refine (burnFits_any _ _ _ _ _ hA hl).mono ?_
    rintro e w1 ⟨rfl, hB1⟩
    rw [HI.out]
    go_wp2_with fail
    refine (allInRange_any _ _ _ _ _ _ (hB.below hB1) hm).mono ?_
    rintro e w2 ⟨rfl, hB2⟩
    have hb2 := next hB1 hB2
    rw [← H3.out]
    go_wp2_with fail
    go_ret
    exact ⟨rfl, hb2⟩

theorem rangeOk_false_at {m : Int} {xs : List Int} {i : Nat} {p : Int} (hp : xs[i]? = some p) (h : inR p 0 m = false) : rangeOk m xs = false := by
  unfold rangeOk
  cases e : xs.all (fun x => inR x 0 m) with
  | false => rfl
  | true => rw [List.all_eq_true.1 e p (List.mem_of_getElem? hp)] at h; cases h

set_option maxHeartbeats 800000 in
theorem specBurnOk_any (A B : Option Addr) (c d : Nat) (xs : List Int) (b : Int) (on : List Int) (w : World) (hA : IntsAt w A xs) (hl : xs.length ≤ 1048576) (hB : IntsAt w B on) (hm : on.length ≤ 1048576) :
    Calls Tryd.prog 73 #[.slice A xs.length c, .int .i64 b, .slice B on.length d] w fun e w' => e = .returned (.bool (burnOkL xs b on)) ∧ Below w.heap.size w w' := by
  have HM : Hid (inR b 1 3 = true → wrap64 (b - 1) = b - 1) := hide (fun h => IntWalk.wrap64_in _ (by have := inR_iff.1 h; omega))
  obtain ⟨m, hm1⟩ : ∃ m, wrap64 (b - 1) = m := ⟨_, rfl⟩
  have HM1 := hide hm1
  go_enter Tryd.func73, Tryd.ntmps73
  go_wp2_with fail
  go_loopw [7] (fun i wr => ∃ k : Nat, k ≤ on.length ∧ i = .int .i64 k ∧ Hid (rangeOk m on = rangeOk m (on.drop k)) ∧ Below w.heap.size w wr) (fun i _ => on.length - (intOf i).toNat)
  case atStart => exact ⟨0, Nat.zero_le _, rfl, hide rfl, by go_grown⟩
  case round =>
    obtain ⟨k, hk, rfl, HG, hb⟩ := hrel
    have hsz := hb.size
    by_cases hlt : k < on.length
    · obtain ⟨b', off, rfl, hbl, hc1⟩ := (hB.below hb) k on[k] (List.getElem?_eq_getElem hlt)
      have HX := hide (List.getElem?_eq_getElem hlt)
      have HD : Hid (on.drop k = on[k] :: on.drop (k + 1)) := hide (List.drop_eq_getElem_cons hlt)
      generalize on[k] = p at *
      have hz : (0 : Int) ≤ k := by omega
      have hz2 : (k : Int) < on.length := by omega
      cases hp : inR p 0 m with
      | false =>
        have HQ := hide hp
        have H3 : Hid (burnOkL xs b on = false) := hide (by
          unfold burnOkL burnFit
          cases hq : inR b 1 3 with
          | false => simp
          | true =>
            have e := HM.out hq
            rw [← HM1.out, e] at hp
            rw [rangeOk_false_at HX.out hp]
            simp)
        clear hp
        go_wp2_with fail
        refine (l1In_is _ _ _ _ HQ _).mono ?_
        rintro e w' ⟨rfl, rfl⟩
        go_wp2_with fail
        go_ret
        exact ⟨by rw [H3.out]; rfl, hb⟩
      | true =>
        have HQ := hide hp
        have H3 : Hid (rangeOk m on = rangeOk m (on.drop (k + 1))) := hide (by rw [HG.out, HD.out]; unfold rangeOk; rw [List.all_cons, hp]; rfl)
        clear hp
        go_wp2_with fail
        refine (l1In_is _ _ _ _ HQ _).mono ?_
        rintro e w' ⟨rfl, rfl⟩
        go_wp2_with fail
        go_roundw
        case rel => exact ⟨k + 1, hlt, by go_num, H3, hb⟩
        case measure => simp [intOf]; omega
    · have HT : Hid (rangeOk m on = true) := hide (by rw [HG.out, List.drop_of_length_le (by omega)]; rfl)
      cases hI : spansOk xs with
      | false =>
        have HI := hide hI
        have H3 : Hid (burnOkL xs b on = false) := hide (by unfold burnOkL burnFit; rw [hI]; rfl)
        clear hI
        go_wp2_with fail
        refine (specSpansValid_any _ _ _ _ (hA.below hb) hl).mono ?_
        rintro e w1 ⟨rfl, hB1⟩
        have hb1 := next hb hB1
        rw [HI.out]
        go_wp2_with fail
        go_ret
        exact ⟨by rw [H3.out]; rfl, hb1⟩
      | true =>
        have HI := hide hI
        cases hq : inR b 1 3 with
        | false =>
          have HQ := hide hq
          have H3 : Hid (burnOkL xs b on = false) := hide (by unfold burnOkL burnFit; rw [hq]; simp)
          clear hI hq
          go_wp2_with fail
          refine (specSpansValid_any _ _ _ _ (hA.below hb) hl).mono ?_
          rintro e w1 ⟨rfl, hB1⟩
          have hb1 := next hb hB1
          rw [HI.out]
          go_wp2_with fail
          refine (l1In_is _ _ _ _ HQ _).mono ?_
          rintro e w' ⟨rfl, rfl⟩
          go_wp2_with fail
          go_ret
          exact ⟨by rw [H3.out]; rfl, hb1⟩
        | true =>
          have HQ := hide hq
          have H3 : Hid (burnOkL xs b on = ((on.length : Int) == (xs.length : Int))) := hide (by
            have e := HM.out hq
            rw [HM1.out] at e
            unfold burnOkL burnFit
            rw [hI, hq, ← e, HT.out, Bool.eq_iff_iff]
            simp)
          clear hI hq
          go_wp2_with fail
          refine (specSpansValid_any _ _ _ _ (hA.below hb) hl).mono ?_
          rintro e w1 ⟨rfl, hB1⟩
          have hb1 := next hb hB1
          rw [HI.out]
          go_wp2_with fail
          refine (l1In_is _ _ _ _ HQ _).mono ?_
          rintro e w' ⟨rfl, rfl⟩
          go_wp2_with fail
          go_ret
          exact ⟨by rw [H3.out]; rfl, hb1⟩
end Go.Proofs.YteloapholoechaaDoor
