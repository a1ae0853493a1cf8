/- Contracts of TasksValid and its helper, of the program and of the reference model: both compute one function of the list.
   Conditions: the list and each task's numbers have at most 1048576 elements. -/
import Derived.Test.YtgagfaajilbmmaaDoorTasks
namespace Go.Proofs.YtgagfaajilbmmaaDoor
open Go.RowKit

def ascGo (limit : Int) : Int → List Int → Bool
  | _, [] => true
  | least, n :: r => inR n least (limit - 1) && ascGo limit (n + 1) r

def taskOk (x : Task) (k : Int) : Bool := inR x.span 0 30 && ascGo k 0 x.after
def tasksGo : Int → List Task → Bool
  | _, [] => true
  | k, x :: r => taskOk x k && tasksGo (k + 1) r
def tasksOk (l : List Task) : Bool := decide (l.length ≤ 7) && tasksGo 0 l

theorem tasksOk_len {l : List Task} (h : tasksOk l = true) : l.length ≤ 7 := by
  unfold tasksOk at h
  simp only [Bool.and_eq_true, decide_eq_true_eq] at h
  exact h.1

def l1Asc (limit : Int) : Int → List Int → Bool
  | _, [] => true
  | prev, p :: r => inR p 0 (limit - 1) && (decide (prev < p) && l1Asc limit p r)

theorem l1Asc_eq (limit : Int) (xs : List Int) : ∀ prev, -1 ≤ prev → l1Asc limit prev xs = ascGo limit (prev + 1) xs := by
  induction xs with
  | nil => intro prev _; rfl
  | cons p r ih =>
    intro prev h
    have e1 : (inR p 0 (limit - 1) && decide (prev < p)) = inR p (prev + 1) (limit - 1) := by
      rw [Bool.eq_iff_iff]; simp only [Bool.and_eq_true, inR_iff, decide_eq_true_eq]; omega
    unfold l1Asc ascGo
    rw [← e1]
    cases h1 : inR p 0 (limit - 1)
    · rfl
    · rw [ih _ (by rw [inR_iff] at h1; omega)]
      cases decide (prev < p) <;> rfl

set_option maxHeartbeats 800000 in
theorem ascendingBelow_any (A : Option Addr) (c : Nat) (xs : List Int) (limit : Int) (w : World) (hA : IntsAt w A xs) (hl : xs.length ≤ 1048576) (h0 : 0 ≤ limit) (h1 : limit ≤ 1048576) :
    Calls Tryd.prog 80 #[.slice A xs.length c, .int .i64 limit] w fun e w' => e = .returned (.bool (ascGo limit 0 xs)) ∧ Below w.heap.size w w' := by
  go_enter Tryd.func80, Tryd.ntmps80
  go_wp2_with fail
  go_loopw [5, 10] (fun le i wr => ∃ (k : Nat) (least : Int), k ≤ xs.length ∧ i = .int .i64 k ∧ le = .int .i64 least ∧ 0 ≤ least ∧ Hid (ascGo limit 0 xs = ascGo limit least (xs.drop k)) ∧ Below w.heap.size w wr) (fun _ i _ => xs.length - (intOf i).toNat)
  case atStart => exact ⟨0, 0, Nat.zero_le _, rfl, rfl, by omega, hide rfl, Below.refl _ _⟩
  case round =>
    obtain ⟨k, least, hk, rfl, rfl, hle, HG, hb⟩ := hrel
    have hsz := hb.size
    by_cases hlt : k < xs.length
    · obtain ⟨b, off, rfl, hbl, hc1⟩ := (hA.below hb) k xs[k] (List.getElem?_eq_getElem hlt)
      have HD : Hid (xs.drop k = xs[k] :: xs.drop (k + 1)) := hide (List.drop_eq_getElem_cons hlt)
      generalize xs[k] = p at *
      have hz : (0 : Int) ≤ k := by omega
      have hz2 : (k : Int) < xs.length := by omega
      cases h2 : inR p least (limit - 1) with
      | false =>
        have H2 := hide h2
        have H3 : Hid (ascGo limit 0 xs = false) := hide (by rw [HG.out, HD.out, ascGo, h2]; rfl)
        clear h2
        go_wp2_with fail
        refine (inRange_is _ _ _ _ H2 _).mono ?_
        rintro e w' ⟨rfl, rfl⟩
        go_wp2_with fail
        go_ret
        exact ⟨by rw [H3.out]; rfl, hb⟩
      | true =>
        have H2 := hide h2
        obtain ⟨hp0, hp1⟩ := inR_iff.1 h2
        have H3 : Hid (ascGo limit 0 xs = ascGo limit (p + 1) (xs.drop (k + 1))) := hide (by rw [HG.out, HD.out, ascGo, h2]; rfl)
        clear h2
        go_wp2_with fail
        refine (inRange_is _ _ _ _ H2 _).mono ?_
        rintro e w' ⟨rfl, rfl⟩
        go_wp2_with fail
        go_roundw
        case rel => exact ⟨k + 1, p + 1, hlt, by go_num, rfl, by omega, H3, hb⟩
        case measure => simp [intOf]; omega
    · have H3 : Hid (ascGo limit 0 xs = true) := hide (by rw [HG.out, List.drop_of_length_le (by omega)]; rfl)
      go_wp2_with fail
      go_ret
      exact ⟨by rw [H3.out]; rfl, hb⟩

set_option maxHeartbeats 1000000 in
theorem implTasksValid_any (A : Option Addr) (c : Nat) (l : List Task) (w : World) (hA : TasksAt w A l) (hl : l.length ≤ 1048576) (hp : ∀ x ∈ l, x.after.length ≤ 1048576) :
    Calls Tryd.prog 33 #[.slice A l.length c] w fun e w' => e = .returned (.bool (tasksOk l)) ∧ Below w.heap.size w w' := by
  have HP := hide hp
  clear hp
  by_cases h6 : l.length ≤ 7
  · have HR : Hid (tasksOk l = tasksGo 0 l) := by unfold tasksOk; rw [decide_eq_true h6]; exact hide rfl
    go_enter Tryd.func33, Tryd.ntmps33
    go_wp2_with fail
    go_loopw [10] (fun i wr => ∃ k : Nat, k ≤ l.length ∧ i = .int .i64 k ∧ Hid (tasksOk l = tasksGo k (l.drop k)) ∧ Below w.heap.size w wr) (fun i _ => l.length - (intOf i).toNat)
    case atStart => exact ⟨0, Nat.zero_le _, rfl, HR, by go_grown⟩
    case round =>
      obtain ⟨k, hk, rfl, HG, hb⟩ := hrel
      have hsz := hb.size
      by_cases hlt : k < l.length
      · obtain ⟨b, off, B, d, rfl, hbl, hc1, hc2, hpa⟩ := (hA.below hb) k l[k] (List.getElem?_eq_getElem hlt)
        have HD : Hid (l.drop k = l[k] :: l.drop (k + 1)) := hide (List.drop_eq_getElem_cons hlt)
        have hx : l[k].after.length ≤ 1048576 := HP.out _ (List.getElem_mem hlt)
        generalize l[k] = x at *
        have hz : (0 : Int) ≤ k := by omega
        have hz2 : (k : Int) < l.length := by omega
        cases h1 : inR x.span 0 30 with
        | false =>
          have H1 := hide h1
          have H3 : Hid (tasksOk l = false) := hide (by rw [HG.out, HD.out, tasksGo]; unfold taskOk; rw [h1]; rfl)
          clear h1
          go_wp2_with fail
          refine (inRange_is _ _ _ _ H1 _).mono ?_
          rintro e w' ⟨rfl, rfl⟩
          go_wp2_with fail
          go_ret
          exact ⟨by rw [H3.out]; rfl, by go_grown⟩
        | true =>
          have H1 := hide h1
          cases h2 : ascGo k 0 x.after with
          | false =>
            have H2 := hide h2
            have H3 : Hid (tasksOk l = false) := hide (by rw [HG.out, HD.out, tasksGo]; unfold taskOk; rw [h1, h2]; rfl)
            clear h1 h2
            go_wp2_with fail
            refine (inRange_is _ _ _ _ H1 _).mono ?_
            rintro e w' ⟨rfl, rfl⟩
            go_wp2_with fail
            refine (ascendingBelow_any _ _ _ _ _ (hpa.below (by go_grown)) hx hz (by omega)).mono ?_
            rintro e w' ⟨rfl, hB⟩
            rw [H2.out]
            have hb2 : Below w.heap.size w w' := Below.trans (by go_grown) (hB.mono (by simp; omega))
            go_wp2_with fail
            go_ret
            exact ⟨by rw [H3.out]; rfl, by go_grown⟩
          | true =>
            have H2 := hide h2
            have H3 : Hid (tasksOk l = tasksGo ((k + 1 : Nat) : Int) (l.drop (k + 1))) := hide (by rw [HG.out, HD.out, tasksGo]; unfold taskOk; rw [h1, h2]; rfl)
            clear h1 h2
            go_wp2_with fail
            refine (inRange_is _ _ _ _ H1 _).mono ?_
            rintro e w' ⟨rfl, rfl⟩
            go_wp2_with fail
            refine (ascendingBelow_any _ _ _ _ _ (hpa.below (by go_grown)) hx hz (by omega)).mono ?_
            rintro e w' ⟨rfl, hB⟩
            rw [H2.out]
            have hb2 : Below w.heap.size w w' := Below.trans (by go_grown) (hB.mono (by simp; omega))
            go_wp2_with fail
            go_roundw
            case rel => exact ⟨k + 1, hlt, by go_num, H3, by go_grown⟩
            case measure => simp [intOf]; omega
      · have H3 : Hid (tasksOk l = true) := hide (by rw [HG.out, List.drop_of_length_le (by omega)]; rfl)
        go_wp2_with fail
        go_ret
        exact ⟨by rw [H3.out]; rfl, by go_grown⟩
  · have HR : Hid (tasksOk l = false) := by unfold tasksOk; rw [decide_eq_false h6]; exact hide rfl
    go_enter Tryd.func33, Tryd.ntmps33
    go_wp2_with fail
    go_ret
    exact ⟨by rw [HR.out]; rfl, by go_grown⟩

set_option maxHeartbeats 2000000 in
theorem specTasksValid_any (A : Option Addr) (c : Nat) (l : List Task) (w : World) (hA : TasksAt w A l) (hl : l.length ≤ 1048576) (hp : ∀ x ∈ l, x.after.length ≤ 1048576) :
    Calls Tryd.prog 29 #[.slice A l.length c] w fun e w' => e = .returned (.bool (tasksOk l)) ∧ Below w.heap.size w w' := by
  have HP := hide hp
  clear hp
  go_enter Tryd.func29, Tryd.ntmps29
  go_wp2_with fail
  go_loopw [3] (fun i wr => ∃ k : Nat, k ≤ l.length ∧ i = .int .i64 k ∧ Hid (tasksGo 0 l = tasksGo k (l.drop k)) ∧ Below w.heap.size w wr) (fun i _ => l.length - (intOf i).toNat)
  case atStart => exact ⟨0, Nat.zero_le _, rfl, hide rfl, by go_grown⟩
  case round =>
    obtain ⟨k, hk, rfl, HG, hb⟩ := hrel
    by_cases hlt : k < l.length
    · obtain ⟨b, off, B, d, rfl, hbl, hc1, hc2, hpa⟩ := hA k l[k] (List.getElem?_eq_getElem hlt)
      have HD : Hid (l.drop k = l[k] :: l.drop (k + 1)) := hide (List.drop_eq_getElem_cons hlt)
      have hx : l[k].after.length ≤ 1048576 := HP.out _ (List.getElem_mem hlt)
      generalize l[k] = x at *
      have hz : (0 : Int) ≤ k := by omega
      have hz2 : (k : Int) < l.length := by omega
      have HC1 := hide hc1
      have HC2 := hide hc2
      clear hc1 hc2
      go_wp2_with fail
      go_loopw [4] (fun i wr => ∃ (j : Nat) (prev : Int), j ≤ x.after.length ∧ i = .int .i64 j ∧ Hid (l1Asc k (-1) x.after = l1Asc k prev (x.after.drop j)) ∧ Hid (j = 0 → prev = -1) ∧ Hid (∀ i p, j = i + 1 → x.after[i]? = some p → prev = p) ∧ Below w.heap.size w wr) (fun i _ => x.after.length - (intOf i).toNat)
      case atStart => exact ⟨0, -1, Nat.zero_le _, rfl, hide rfl, hide (fun _ => rfl), hide (fun _ _ h => absurd h (by omega)), hb⟩
      case round =>
        clear hb
        obtain ⟨j, prev, hj, rfl, HI, HZ, HS, hb⟩ := hrel
        have hsz := hb.size
        have hq1 := (hb.cell hbl).trans HC1.out
        have hq2 := (hb.cell hbl).trans HC2.out
        by_cases hjt : j < x.after.length
        · obtain ⟨b2, off2, rfl, hbl2, hd⟩ := (hpa.below hb) j x.after[j] (List.getElem?_eq_getElem hjt)
          have HDJ : Hid (x.after.drop j = x.after[j] :: x.after.drop (j + 1)) := hide (List.drop_eq_getElem_cons hjt)
          have HPJ : Hid (x.after[j]? = some x.after[j]) := hide (List.getElem?_eq_getElem hjt)
          generalize x.after[j] = p at *
          have hy : (0 : Int) ≤ j := by omega
          have hy2 : (j : Int) < x.after.length := by omega
          cases h1 : inR p 0 ((k : Int) - 1) with
          | false =>
            have H1 := hide h1
            have H3 : Hid (tasksOk l = false) := hide (by
              unfold tasksOk
              rw [HG.out, HD.out, tasksGo]
              unfold taskOk
              have e := l1Asc_eq k x.after (-1) (by omega)
              rw [HI.out, HDJ.out, l1Asc, h1] at e
              rw [show ascGo (k : Int) 0 x.after = false from e.symm]
              simp)
            clear h1
            go_wp2_with fail
            go_quiet ((go_at_call 57; exact Calls.quiet_of_same (l1In_is _ _ _ _ H1 _)))
            go_wp2_with fail
            go_ret
            exact ⟨by rw [H3.out]; rfl, below_drewN hb _⟩
          | true =>
            have H1 := hide h1
            have HS' : Hid (∀ i q, j + 1 = i + 1 → x.after[i]? = some q → p = q) := by
              apply hide
              intro i q hi hq
              obtain rfl : j = i := by omega
              rw [HPJ.out] at hq
              injection hq with hq
            by_cases h0 : 0 < j
            · obtain ⟨i, rfl⟩ : ∃ i, j = i + 1 := ⟨j - 1, by omega⟩
              have hi : i < x.after.length := by omega
              obtain ⟨b', off', hA', -, hd1⟩ := (hpa.below hb) i (x.after[i]'hi) (List.getElem?_eq_getElem hi)
              injection hA' with hA'
              injection hA' with hA1 hA2
              subst hA1 hA2
              have HQ : Hid (prev = (x.after[i]'hi)) := hide (HS.out i _ rfl (List.getElem?_eq_getElem hi))
              generalize (x.after[i]'hi) = prev' at *
              obtain rfl : prev = prev' := HQ.out
              clear HQ
              by_cases hlt2 : prev < p
              · have H3 : Hid (l1Asc k (-1) x.after = l1Asc k p (x.after.drop (i + 1 + 1))) := hide (by rw [HI.out, HDJ.out, l1Asc, h1, decide_eq_true hlt2]; rfl)
                clear h1
                go_wp2_with fail
                go_quiet ((go_at_call 57; exact Calls.quiet_of_same (l1In_is _ _ _ _ H1 _)))
                go_wp2_with fail
                go_roundw
                case rel => exact ⟨i + 1 + 1, _, hjt, by go_num, H3, hide (fun h => absurd h (by omega)), HS', below_drewN hb _⟩
                case measure => simp [intOf]; omega
              · have H3 : Hid (tasksOk l = false) := hide (by
                  unfold tasksOk
                  rw [HG.out, HD.out, tasksGo]
                  unfold taskOk
                  have e := l1Asc_eq k x.after (-1) (by omega)
                  rw [HI.out, HDJ.out, l1Asc, h1, decide_eq_false hlt2] at e
                  rw [show ascGo (k : Int) 0 x.after = false from e.symm]
                  simp)
                clear h1
                go_wp2_with fail
                go_quiet ((go_at_call 57; exact Calls.quiet_of_same (l1In_is _ _ _ _ H1 _)))
                go_wp2_with fail
                go_ret
                exact ⟨by rw [H3.out]; rfl, below_drewN hb _⟩
            · have H3 : Hid (l1Asc k (-1) x.after = l1Asc k p (x.after.drop (j + 1))) := hide (by rw [HI.out, HDJ.out, l1Asc, h1, HZ.out (by omega), decide_eq_true (show (-1 : Int) < p by have := (inR_iff.1 h1).1; omega)]; rfl)
              have h0' : ¬ (0 : Int) < j := by omega
              clear h1
              go_wp2_with fail
              go_quiet ((go_at_call 57; exact Calls.quiet_of_same (l1In_is _ _ _ _ H1 _)))
              go_wp2_with fail
              go_roundw
              case rel => exact ⟨j + 1, _, hjt, by go_num, H3, hide (fun h => absurd h (by omega)), HS', below_drewN hb _⟩
              case measure => simp [intOf]; omega
        · have HASC : Hid (ascGo (k : Int) 0 x.after = true) := hide (by
            have e := l1Asc_eq k x.after (-1) (by omega)
            rw [HI.out, List.drop_of_length_le (by omega), l1Asc] at e
            exact e.symm)
          cases h1 : inR x.span 0 30 with
          | false =>
            have H1 := hide h1
            have H3 : Hid (tasksOk l = false) := hide (by unfold tasksOk; rw [HG.out, HD.out, tasksGo]; unfold taskOk; rw [h1]; simp)
            clear h1
            go_wp2_with fail
            refine (l1In_is _ _ _ _ H1 _).mono ?_
            rintro e w' ⟨rfl, rfl⟩
            go_wp2_with fail
            go_ret
            exact ⟨by rw [H3.out]; rfl, hb⟩
          | true =>
            have H1 := hide h1
            have H3 : Hid (tasksGo 0 l = tasksGo ((k + 1 : Nat) : Int) (l.drop (k + 1))) := hide (by rw [HG.out, HD.out, tasksGo]; unfold taskOk; rw [h1, HASC.out]; rfl)
            clear h1
            go_wp2_with fail
            refine (l1In_is _ _ _ _ H1 _).mono ?_
            rintro e w' ⟨rfl, rfl⟩
            go_wp2_with fail
            go_roundw
            case rel => exact ⟨k + 1, hlt, by go_num, H3, hb⟩
            case measure => simp [intOf]; omega
    · have H3 : Hid (tasksOk l = decide ((l.length : Int) ≤ 7)) := by
        apply hide
        unfold tasksOk
        rw [HG.out, List.drop_of_length_le (by omega), Bool.eq_iff_iff]
        simp [tasksGo]
        omega
      go_wp2_with fail
      go_ret
      exact ⟨by rw [H3.out]; rfl, by go_grown⟩
end Go.Proofs.YtgagfaajilbmmaaDoor
