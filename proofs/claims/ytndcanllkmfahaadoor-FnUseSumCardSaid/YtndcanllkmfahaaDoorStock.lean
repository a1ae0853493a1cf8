/- Lots and wants: what is valid, what can be used on a day, what can be taken; contracts of the program and of the reference model.
   Conditions: lists have at most 1048576 elements. -/
import Derived.Test.YtndcanllkmfahaaDoorMarks2
namespace Go.Proofs.YtndcanllkmfahaaDoor
open Go.RowKit

def lotOk (x : Lot) : Bool := inR x.many 0 9 && inR x.last 0 5
def lotsOk (l : List Lot) : Bool := decide (l.length ≤ 5) && l.all lotOk
def wantsOk (xs : List Int) : Bool := decide (xs.length ≤ 6) && rangeOk 50 xs
def usab (x : Lot) (day : Int) : Int := if x.last < day then 0 else x.many
def unitsGo (day : Int) : List Lot → Int
  | [] => 0
  | x :: r => usab x day + unitsGo day r
def unitsL (l : List Lot) (day : Int) : Int := if lotsOk l = true then unitsGo day l else -1
def takeGo (day : Int) : List Lot → List Int → Bool
  | x :: r, t :: s => inR t 0 (usab x day) && takeGo day r s
  | _, _ => true
def takeOkL (l : List Lot) (day : Int) (take : List Int) : Bool := lotsOk l && (decide (take.length = l.length) && takeGo day l take)

theorem lotsOk_len {l : List Lot} (h : lotsOk l = true) : l.length ≤ 5 := by
  unfold lotsOk at h
  simp at h
  exact h.1

theorem lotsOk_at {l : List Lot} (h : lotsOk l = true) {x : Lot} (hx : x ∈ l) : 0 ≤ x.many ∧ x.many ≤ 9 ∧ 0 ≤ x.last ∧ x.last ≤ 5 := by
  unfold lotsOk at h
  simp only [Bool.and_eq_true, List.all_eq_true] at h
  have := h.2 x hx
  unfold lotOk at this
  simp only [Bool.and_eq_true, inR_iff] at this
  omega

theorem usab_range {x : Lot} (h : 0 ≤ x.many ∧ x.many ≤ 9 ∧ 0 ≤ x.last ∧ x.last ≤ 5) (day : Int) : 0 ≤ usab x day ∧ usab x day ≤ 9 := by
  unfold usab
  split <;> omega

set_option maxHeartbeats 400000 in
theorem implLotsValid_any (A : Option Addr) (c : Nat) (l : List Lot) (w : World) (hA : LotsAt w A l) (hl : l.length ≤ 1048576) :
    Calls Tryd.prog 21 #[.slice A l.length c] w fun e w' => e = .returned (.bool (lotsOk l)) ∧ Below w.heap.size w w' := by
  by_cases h6 : l.length ≤ 5
  · have HR : Hid (lotsOk l = l.all lotOk) := by unfold lotsOk; rw [decide_eq_true h6]; exact hide rfl
    go_enter Tryd.func21, Tryd.ntmps21
    go_wp2_with fail
    go_loopw [10] (fun i wr => ∃ k : Nat, k ≤ l.length ∧ i = .int .i64 k ∧ Hid (lotsOk l = (l.drop k).all lotOk) ∧ Below w.heap.size w wr) (fun i _ => l.length - (intOf i).toNat)
    case atStart => exact ⟨0, Nat.zero_le _, rfl, HR, by go_grown⟩
    case round =>
      obtain ⟨k, hk, rfl, HG, hb⟩ := hrel
      have hsz := hb.size
      by_cases hlt : k < l.length
      · obtain ⟨b, off, rfl, hbl, hc1, hc2⟩ := (hA.below hb) k l[k] (List.getElem?_eq_getElem hlt)
        have HD : Hid (l.drop k = l[k] :: l.drop (k + 1)) := hide (List.drop_eq_getElem_cons hlt)
        generalize l[k] = x at *
        have hz : (0 : Int) ≤ k := by omega
        have hz2 : (k : Int) < l.length := by omega
        cases h1 : inR x.many 0 9 with
        | false =>
          have H1 := hide h1
          have H3 : Hid (lotsOk l = false) := hide (by rw [HG.out, HD.out, List.all_cons]; unfold lotOk; rw [h1]; rfl)
          clear h1
          go_wp2_with fail
          refine (inRange_is _ _ _ _ H1 _).mono ?_
          rintro e w' ⟨rfl, rfl⟩
          go_wp2_with fail
          go_ret
          exact ⟨by rw [H3.out]; rfl, by go_grown⟩
        | true =>
          have H1 := hide h1
          cases h2 : inR x.last 0 5 with
          | false =>
            have H2 := hide h2
            have H3 : Hid (lotsOk l = false) := hide (by rw [HG.out, HD.out, List.all_cons]; unfold lotOk; rw [h1, h2]; rfl)
            clear h1 h2
            go_wp2_with fail
            refine (inRange_is _ _ _ _ H1 _).mono ?_
            rintro e w' ⟨rfl, rfl⟩
            go_wp2_with fail
            refine (inRange_is _ _ _ _ H2 _).mono ?_
            rintro e w' ⟨rfl, rfl⟩
            go_wp2_with fail
            go_ret
            exact ⟨by rw [H3.out]; rfl, by go_grown⟩
          | true =>
            have H2 := hide h2
            have H3 : Hid (lotsOk l = (l.drop (k + 1)).all lotOk) := hide (by rw [HG.out, HD.out, List.all_cons]; unfold lotOk; rw [h1, h2]; rfl)
            clear h1 h2
            go_wp2_with fail
            refine (inRange_is _ _ _ _ H1 _).mono ?_
            rintro e w' ⟨rfl, rfl⟩
            go_wp2_with fail
            refine (inRange_is _ _ _ _ H2 _).mono ?_
            rintro e w' ⟨rfl, rfl⟩
            go_wp2_with fail
            go_roundw
            case rel => exact ⟨k + 1, hlt, by go_num, H3, by go_grown⟩
            case measure => simp [intOf]; omega
      · have H3 : Hid (lotsOk l = true) := hide (by rw [HG.out, List.drop_of_length_le (by omega)]; rfl)
        go_wp2_with fail
        go_ret
        exact ⟨by rw [H3.out]; rfl, by go_grown⟩
  · have HR : Hid (lotsOk l = false) := by unfold lotsOk; rw [decide_eq_false h6]; exact hide rfl
    go_enter Tryd.func21, Tryd.ntmps21
    go_wp2_with fail
    go_ret
    exact ⟨by rw [HR.out]; rfl, by go_grown⟩

set_option maxHeartbeats 400000 in
theorem specLotsValid_any (A : Option Addr) (c : Nat) (l : List Lot) (w : World) (hA : LotsAt w A l) (hl : l.length ≤ 1048576) :
    Calls Tryd.prog 34 #[.slice A l.length c] w fun e w' => e = .returned (.bool (lotsOk l)) ∧ Below w.heap.size w w' := by
  go_enter Tryd.func34, Tryd.ntmps34
  go_wp2_with fail
  go_loopw [3] (fun i wr => ∃ k : Nat, k ≤ l.length ∧ i = .int .i64 k ∧ Hid (l.all lotOk = (l.drop k).all lotOk) ∧ Below w.heap.size w wr) (fun i _ => l.length - (intOf i).toNat)
  case atStart => exact ⟨0, Nat.zero_le _, rfl, hide rfl, by go_grown⟩
  case round =>
    obtain ⟨k, hk, rfl, HG, hb⟩ := hrel
    have hsz := hb.size
    by_cases hlt : k < l.length
    · obtain ⟨b, off, rfl, hbl, hc1, hc2⟩ := (hA.below hb) k l[k] (List.getElem?_eq_getElem hlt)
      have HD : Hid (l.drop k = l[k] :: l.drop (k + 1)) := hide (List.drop_eq_getElem_cons hlt)
      generalize l[k] = x at *
      have hz : (0 : Int) ≤ k := by omega
      have hz2 : (k : Int) < l.length := by omega
      cases h1 : inR x.many 0 9 with
      | false =>
        have H1 := hide h1
        have H3 : Hid (lotsOk l = false) := hide (by unfold lotsOk; rw [HG.out, HD.out, List.all_cons]; unfold lotOk; rw [h1]; simp)
        clear h1
        go_wp2_with fail
        refine (l1In_is _ _ _ _ H1 _).mono ?_
        rintro e w' ⟨rfl, rfl⟩
        go_wp2_with fail
        go_ret
        exact ⟨by rw [H3.out]; rfl, by go_grown⟩
      | true =>
        have H1 := hide h1
        cases h2 : inR x.last 0 5 with
        | false =>
          have H2 := hide h2
          have H3 : Hid (lotsOk l = false) := hide (by unfold lotsOk; rw [HG.out, HD.out, List.all_cons]; unfold lotOk; rw [h1, h2]; simp)
          clear h1 h2
          go_wp2_with fail
          refine (l1In_is _ _ _ _ H1 _).mono ?_
          rintro e w' ⟨rfl, rfl⟩
          go_wp2_with fail
          refine (l1In_is _ _ _ _ H2 _).mono ?_
          rintro e w' ⟨rfl, rfl⟩
          go_wp2_with fail
          go_ret
          exact ⟨by rw [H3.out]; rfl, by go_grown⟩
        | true =>
          have H2 := hide h2
          have H3 : Hid (l.all lotOk = (l.drop (k + 1)).all lotOk) := hide (by rw [HG.out, HD.out, List.all_cons]; unfold lotOk; rw [h1, h2]; rfl)
          clear h1 h2
          go_wp2_with fail
          refine (l1In_is _ _ _ _ H1 _).mono ?_
          rintro e w' ⟨rfl, rfl⟩
          go_wp2_with fail
          refine (l1In_is _ _ _ _ H2 _).mono ?_
          rintro e w' ⟨rfl, rfl⟩
          go_wp2_with fail
          go_roundw
          case rel => exact ⟨k + 1, hlt, by go_num, H3, by go_grown⟩
          case measure => simp [intOf]; omega
    · have H3 : Hid (lotsOk l = decide ((l.length : Int) ≤ 5)) := by
        apply hide
        unfold lotsOk
        rw [HG.out, List.drop_of_length_le (by omega), Bool.eq_iff_iff]
        simp
        omega
      go_wp2_with fail
      go_ret
      exact ⟨by rw [H3.out]; rfl, by go_grown⟩

theorem allInRange_self (A : Option Addr) (c : Nat) (xs : List Int) (most : Int) (w : World) (h1 : IntsAt w A xs) (hl : xs.length ≤ 1048576) :
    Calls Tryd.prog 72 #[.slice A xs.length c, .int .i64 (xs.length : Int), .int .i64 most] w fun e w' => e = .returned (.bool (rangeOk most xs)) ∧ Below w.heap.size w w' :=
  (allInRange_any A c xs (xs.length : Int) most w h1 hl).mono fun e w' ⟨he, hb⟩ => ⟨by rw [he, decide_eq_true rfl, Bool.true_and], hb⟩

set_option maxHeartbeats 400000 in
theorem implWantsValid_any (A : Option Addr) (c : Nat) (xs : List Int) (w : World) (hA : IntsAt w A xs) (hl : xs.length ≤ 1048576) :
    Calls Tryd.prog 66 #[.slice A xs.length c] w fun e w' => e = .returned (.bool (wantsOk xs)) ∧ Below w.heap.size w w' := by
  by_cases h6 : xs.length ≤ 6
  · have HR : Hid (wantsOk xs = rangeOk 50 xs) := by unfold wantsOk; rw [decide_eq_true h6]; exact hide rfl
    have hd : decide ((xs.length : Int) ≤ 6) = true := decide_eq_true (by omega)
    go_enter Tryd.func66, Tryd.ntmps66
    go_wp2_with fail
    refine (allInRange_self _ _ _ _ _ hA hl).mono ?_
    rintro e w1 ⟨rfl, hB⟩
    go_wp2_with fail
    go_ret
    exact ⟨by rw [HR.out]; rfl, hB⟩
  · have HR : Hid (wantsOk xs = false) := by unfold wantsOk; rw [decide_eq_false h6]; exact hide rfl
    have hd : decide ((xs.length : Int) ≤ 6) = false := decide_eq_false (by omega)
    go_enter Tryd.func66, Tryd.ntmps66
    go_wp2_with fail
    go_ret
    exact ⟨by rw [HR.out]; rfl, by go_grown⟩

set_option maxHeartbeats 400000 in
theorem specWantsValid_any (A : Option Addr) (c : Nat) (xs : List Int) (w : World) (hA : IntsAt w A xs) (hl : xs.length ≤ 1048576) :
    Calls Tryd.prog 35 #[.slice A xs.length c] w fun e w' => e = .returned (.bool (wantsOk xs)) ∧ Below w.heap.size w w' := by
  go_enter Tryd.func35, Tryd.ntmps35
  go_wp2_with fail
  go_loopw [3] (fun i wr => ∃ k : Nat, k ≤ xs.length ∧ i = .int .i64 k ∧ Hid (rangeOk 50 xs = rangeOk 50 (xs.drop k)) ∧ Below w.heap.size w wr) (fun i _ => xs.length - (intOf i).toNat)
  case atStart => exact ⟨0, Nat.zero_le _, rfl, hide rfl, by go_grown⟩
  case round =>
    obtain ⟨k, hk, rfl, HG, hb⟩ := hrel
    have hsz := hb.size
    by_cases hlt : k < xs.length
    · obtain ⟨b, off, rfl, hbl, hc1⟩ := (hA.below hb) k xs[k] (List.getElem?_eq_getElem hlt)
      have HD : Hid (xs.drop k = xs[k] :: xs.drop (k + 1)) := hide (List.drop_eq_getElem_cons hlt)
      generalize xs[k] = p at *
      have hz : (0 : Int) ≤ k := by omega
      have hz2 : (k : Int) < xs.length := by omega
      cases hp : inR p 0 50 with
      | false =>
        have HQ := hide hp
        have H3 : Hid (wantsOk xs = false) := hide (by unfold wantsOk; rw [HG.out, HD.out]; unfold rangeOk; rw [List.all_cons, hp]; simp)
        clear hp
        go_wp2_with fail
        refine (l1In_is _ _ _ _ HQ _).mono ?_
        rintro e w' ⟨rfl, rfl⟩
        go_wp2_with fail
        go_ret
        exact ⟨by rw [H3.out]; rfl, by go_grown⟩
      | true =>
        have HQ := hide hp
        have H3 : Hid (rangeOk 50 xs = rangeOk 50 (xs.drop (k + 1))) := hide (by rw [HG.out, HD.out]; unfold rangeOk; rw [List.all_cons, hp]; rfl)
        clear hp
        go_wp2_with fail
        refine (l1In_is _ _ _ _ HQ _).mono ?_
        rintro e w' ⟨rfl, rfl⟩
        go_wp2_with fail
        go_roundw
        case rel => exact ⟨k + 1, hlt, by go_num, H3, by go_grown⟩
        case measure => simp [intOf]; omega
    · have H3 : Hid (wantsOk xs = decide ((xs.length : Int) ≤ 6)) := by
        apply hide
        unfold wantsOk
        rw [HG.out, List.drop_of_length_le (by omega), Bool.eq_iff_iff]
        simp [rangeOk]
        omega
      go_wp2_with fail
      go_ret
      exact ⟨by rw [H3.out]; rfl, by go_grown⟩

def stockOk (l : List Lot) (xs : List Int) : Bool := lotsOk l && wantsOk xs

set_option maxHeartbeats 400000 in
theorem stockFits_any (A B : Option Addr) (c d : Nat) (l : List Lot) (xs : List Int) (w : World) (hA : LotsAt w A l) (hl : l.length ≤ 1048576) (hB : IntsAt w B xs) (hx : xs.length ≤ 1048576) :
    Calls Tryd.prog 51 #[.slice A l.length c, .slice B xs.length d] w fun e w' => e = .returned (.bool (stockOk l xs)) ∧ Below w.heap.size w w' := by
  cases hI : lotsOk l with
  | false =>
    have HI := hide hI
    have HR : Hid (stockOk l xs = false) := by unfold stockOk; rw [hI]; exact hide rfl
    clear hI
    go_enter Tryd.func51, Tryd.ntmps51
    go_wp2_with fail
    refine (implLotsValid_any _ _ _ _ hA hl).mono ?_
    rintro e w1 ⟨rfl, hB1⟩
    rw [HI.out]
    go_wp2_with fail
    go_ret
    exact ⟨by rw [HR.out]; rfl, hB1⟩
  | true =>
    have HI := hide hI
    have HR : Hid (stockOk l xs = wantsOk xs) := by unfold stockOk; rw [hI]; exact hide rfl
    clear hI
    go_enter Tryd.func51, Tryd.ntmps51
    go_wp2_with fail
    refine (implLotsValid_any _ _ _ _ hA hl).mono ?_
    rintro e w1 ⟨rfl, hB1⟩
    rw [HI.out]
    go_wp2_with fail
    refine (implWantsValid_any _ _ _ _ (hB.below hB1) hx).mono ?_
    rintro e w2 ⟨rfl, hB2⟩
    have hb := next hB1 hB2
    go_wp2_with fail
    go_ret
    exact ⟨by rw [HR.out]; rfl, hb⟩

set_option maxHeartbeats 400000 in
theorem usable_any (x : Lot) (day : Int) (w : World) :
    Calls Tryd.prog 47 #[.agg #[.int .i64 x.many, .int .i64 x.last], .int .i64 day] w fun e w' => e = .returned (.int .i64 (usab x day)) ∧ Below w.heap.size w w' := by
  by_cases h : x.last < day
  · have HR : Hid (usab x day = 0) := by unfold usab; rw [if_pos h]; exact hide rfl
    go_enter Tryd.func47, Tryd.ntmps47
    go_wp2_with fail
    go_ret
    exact ⟨by rw [HR.out]; rfl, by go_grown⟩
  · have HR : Hid (usab x day = x.many) := by unfold usab; rw [if_neg h]; exact hide rfl
    go_enter Tryd.func47, Tryd.ntmps47
    go_wp2_with fail
    go_ret
    exact ⟨by rw [HR.out]; rfl, by go_grown⟩

set_option maxHeartbeats 400000 in
theorem implLotsAt_any (A : Option Addr) (c : Nat) (l : List Lot) (day : Int) (w : World) (hA : LotsAt w A l) (hl : l.length ≤ 1048576) :
    Calls Tryd.prog 16 #[.slice A l.length c, .int .i64 day] w fun e w' => e = .returned (.int .i64 (unitsL l day)) ∧ Below w.heap.size w w' := by
  cases hI : lotsOk l with
  | false =>
    have HI := hide hI
    have HR : Hid (unitsL l day = -1) := by unfold unitsL; rw [hI]; exact hide rfl
    clear hI
    go_enter Tryd.func16, Tryd.ntmps16
    go_wp2_with fail
    refine (implLotsValid_any _ _ _ _ hA hl).mono ?_
    rintro e w1 ⟨rfl, hB1⟩
    rw [HI.out]
    go_wp2_with fail
    go_ret
    exact ⟨by rw [HR.out]; rfl, hB1⟩
  | true =>
    have HI := hide hI
    have h5 := lotsOk_len hI
    have HR : Hid (unitsL l day = unitsGo day l) := by unfold unitsL; rw [hI]; exact hide rfl
    clear hI
    go_enter Tryd.func16, Tryd.ntmps16
    go_wp2_with fail
    refine (implLotsValid_any _ _ _ _ hA hl).mono ?_
    rintro e w1 ⟨rfl, hB1⟩
    rw [HI.out]
    go_wp2_with fail
    go_loopw [5, 13] (fun sv i wr => ∃ (k : Nat) (s : Int), k ≤ l.length ∧ i = .int .i64 k ∧ sv = .int .i64 s ∧ 0 ≤ s ∧ s ≤ 9 * k ∧ Hid (unitsGo day l = s + unitsGo day (l.drop k)) ∧ Below w.heap.size w wr) (fun _ i _ => l.length - (intOf i).toNat)
    case atStart => exact ⟨0, 0, Nat.zero_le _, rfl, rfl, by omega, by omega, hide (by simp), hB1⟩
    case round =>
      obtain ⟨k, s, hk, rfl, rfl, hs0, hs1, HG, hb⟩ := hrel
      have hsz := hb.size
      by_cases hlt : k < l.length
      · obtain ⟨b, off, rfl, hbl, hc1, hc2⟩ := (hA.below hb) k l[k] (List.getElem?_eq_getElem hlt)
        have HD : Hid (l.drop k = l[k] :: l.drop (k + 1)) := hide (List.drop_eq_getElem_cons hlt)
        have hu := usab_range (lotsOk_at HI.out (List.getElem_mem hlt)) day
        generalize l[k] = x at *
        have H3 : Hid (unitsGo day l = (s + usab x day) + unitsGo day (l.drop (k + 1))) := hide (by rw [HG.out, HD.out, unitsGo]; omega)
        obtain ⟨hu0, hu1⟩ := hu
        have hz : (0 : Int) ≤ k := by omega
        have hz2 : (k : Int) < l.length := by omega
        go_wp2_with fail
        refine (usable_any _ _ _).mono ?_
        rintro e w2 ⟨rfl, hB2⟩
        have hb2 : Below w.heap.size w w2 := Below.trans (by go_grown) (hB2.mono (by simp; omega))
        go_wp2_with fail
        go_roundw
        case rel => exact ⟨k + 1, _, hlt, by go_num, rfl, by omega, by omega, H3, hb2⟩
        case measure => simp [intOf]; omega
      · have H3 : Hid (unitsL l day = s) := hide (by rw [HR.out, HG.out, List.drop_of_length_le (by omega)]; simp [unitsGo])
        go_wp2_with fail
        go_ret
        exact ⟨by rw [H3.out]; rfl, hb⟩

set_option maxHeartbeats 400000 in
theorem specLotsAt_any (A : Option Addr) (c : Nat) (l : List Lot) (day : Int) (w : World) (hA : LotsAt w A l) (hl : l.length ≤ 1048576) :
    Calls Tryd.prog 58 #[.slice A l.length c, .int .i64 day] w fun e w' => e = .returned (.int .i64 (unitsL l day)) ∧ Below w.heap.size w w' := by
  cases hI : lotsOk l with
  | false =>
    have HI := hide hI
    have HR : Hid (unitsL l day = -1) := by unfold unitsL; rw [hI]; exact hide rfl
    clear hI
    go_enter Tryd.func58, Tryd.ntmps58
    go_wp2_with fail
    refine (specLotsValid_any _ _ _ _ hA hl).mono ?_
    rintro e w1 ⟨rfl, hB1⟩
    rw [HI.out]
    go_wp2_with fail
    go_ret
    exact ⟨by rw [HR.out]; rfl, hB1⟩
  | true =>
    have HI := hide hI
    have h5 := lotsOk_len hI
    have HR : Hid (unitsL l day = unitsGo day l) := by unfold unitsL; rw [hI]; exact hide rfl
    clear hI
    go_enter Tryd.func58, Tryd.ntmps58
    go_wp2_with fail
    refine (specLotsValid_any _ _ _ _ hA hl).mono ?_
    rintro e w1 ⟨rfl, hB1⟩
    rw [HI.out]
    go_wp2_with fail
    go_loopw [5, 6] (fun sv i wr => ∃ (k : Nat) (s : Int), k ≤ l.length ∧ i = .int .i64 k ∧ sv = .int .i64 s ∧ 0 ≤ s ∧ s ≤ 9 * k ∧ Hid (unitsGo day l = s + unitsGo day (l.drop k)) ∧ Below w.heap.size w wr) (fun _ i _ => l.length - (intOf i).toNat)
    case atStart => exact ⟨0, 0, Nat.zero_le _, rfl, rfl, by omega, by omega, hide (by simp), hB1⟩
    case round =>
      obtain ⟨k, s, hk, rfl, rfl, hs0, hs1, HG, hb⟩ := hrel
      have hsz := hb.size
      by_cases hlt : k < l.length
      · obtain ⟨b, off, rfl, hbl, hc1, hc2⟩ := (hA.below hb) k l[k] (List.getElem?_eq_getElem hlt)
        have HD : Hid (l.drop k = l[k] :: l.drop (k + 1)) := hide (List.drop_eq_getElem_cons hlt)
        have hx := lotsOk_at HI.out (List.getElem_mem hlt)
        generalize l[k] = x at *
        obtain ⟨hx0, hx1, -, -⟩ := hx
        have hz : (0 : Int) ≤ k := by omega
        have hz2 : (k : Int) < l.length := by omega
        by_cases hd : x.last < day
        · have H3 : Hid (unitsGo day l = s + unitsGo day (l.drop (k + 1))) := hide (by rw [HG.out, HD.out, unitsGo]; unfold usab; rw [if_pos hd]; omega)
          have hdd : ¬ day ≤ x.last := by omega
          go_wp2_with fail
          go_roundw
          case rel => exact ⟨k + 1, _, hlt, by go_num, rfl, by omega, by omega, H3, hb⟩
          case measure => simp [intOf]; omega
        · have H3 : Hid (unitsGo day l = (s + x.many) + unitsGo day (l.drop (k + 1))) := hide (by rw [HG.out, HD.out, unitsGo]; unfold usab; rw [if_neg hd]; omega)
          have hdd : day ≤ x.last := by omega
          go_wp2_with fail
          go_roundw
          case rel => exact ⟨k + 1, _, hlt, by go_num, rfl, by omega, by omega, H3, hb⟩
          case measure => simp [intOf]; omega
      · have H3 : Hid (unitsL l day = s) := hide (by rw [HR.out, HG.out, List.drop_of_length_le (by omega)]; simp [unitsGo])
        go_wp2_with fail
        go_ret
        exact ⟨by rw [H3.out]; rfl, hb⟩
end Go.Proofs.YtndcanllkmfahaaDoor
