/- Contracts of StartsOk, of the program and of the reference model: both compute one function of the arguments.
   Conditions: the lists and each task's numbers have at most 1048576 elements. -/
import Derived.Test.YtgagfaajilbmmaaDoorTaskOk
import Derived.Test.YtgagfaajilbmmaaDoorOk
import Derived.Test.YtgagfaajilbmmaaDoorCook1
namespace Go.Proofs.YtgagfaajilbmmaaDoor
open Go.RowKit

def precOk (l : List Task) (ss : List Int) (s : Int) : List Int → Bool
  | [] => true
  | a :: r => decide (¬ s < ss.getD a.toNat 0 + (l.getD a.toNat default).span) && precOk l ss s r
def startsGo (l : List Task) (ss : List Int) : Nat → List Task → Bool
  | _, [] => true
  | k, x :: r => precOk l ss (ss.getD k 0) x.after && startsGo l ss (k + 1) r
def startsOkL (l : List Task) (ss : List Int) : Bool := tasksOk l && ((decide ((ss.length : Int) = l.length) && rangeOk 9999 ss) && startsGo l ss 0 l)

theorem ascGo_at {limit : Int} : ∀ {xs : List Int} {least : Int}, 0 ≤ least → ascGo limit least xs = true → ∀ a ∈ xs, 0 ≤ a ∧ a < limit
  | [], _, _, _, a, ha => by simp at ha
  | p :: r, least, h0, h, a, ha => by
    unfold ascGo at h
    simp only [Bool.and_eq_true, inR_iff] at h
    rcases List.mem_cons.1 ha with rfl | ha
    · omega
    · exact ascGo_at (xs := r) (least := p + 1) (by omega) h.2 a ha

theorem tasksGo_at : ∀ {l : List Task} {k0 : Nat}, tasksGo k0 l = true → ∀ {i : Nat} {x : Task}, l[i]? = some x → (0 ≤ x.span ∧ x.span ≤ 30) ∧ ∀ a ∈ x.after, 0 ≤ a ∧ a < ((k0 + i : Nat) : Int)
  | [], _, _, i, x, hx => by simp at hx
  | y :: r, k0, h, i, x, hx => by
    unfold tasksGo taskOk at h
    simp only [Bool.and_eq_true] at h
    obtain ⟨⟨h1, h2⟩, h3⟩ := h
    cases i with
    | zero =>
      obtain rfl : y = x := by simpa using hx
      exact ⟨inR_iff.1 h1, fun a ha => by have := ascGo_at (by omega) h2 a ha; omega⟩
    | succ i =>
      have := tasksGo_at (l := r) (k0 := k0 + 1) (by rw [show ((k0 + 1 : Nat) : Int) = (k0 : Int) + 1 from by omega]; exact h3) (i := i) (x := x) (by simpa using hx)
      rw [show k0 + (i + 1) = k0 + 1 + i from by omega]
      exact this

theorem tasksOk_at {l : List Task} (h : tasksOk l = true) {i : Nat} {x : Task} (hx : l[i]? = some x) : (0 ≤ x.span ∧ x.span ≤ 30) ∧ ∀ a ∈ x.after, 0 ≤ a ∧ a < (i : Int) := by
  unfold tasksOk at h
  simp only [Bool.and_eq_true] at h
  have := tasksGo_at (k0 := 0) h.2 hx
  rwa [Nat.zero_add] at this

set_option maxHeartbeats 2000000 in
theorem implStartsOk_any (A B : Option Addr) (c d : Nat) (l : List Task) (ss : List Int) (w : World) (hA : TasksAt w A l) (hl : l.length ≤ 1048576) (hp : ∀ x ∈ l, x.after.length ≤ 1048576) (hS : IntsAt w B ss) (hm : ss.length ≤ 1048576) :
    Calls Tryd.prog 21 #[.slice A l.length c, .slice B ss.length d] w fun e w' => e = .returned (.bool (startsOkL l ss)) ∧ Below w.heap.size w w' := by
  have HP := hide hp
  clear hp
  cases hI : tasksOk l with
  | false =>
    have HI := hide hI
    have H3 : Hid (startsOkL l ss = false) := hide (by unfold startsOkL; rw [hI]; rfl)
    clear hI
    go_enter Tryd.func21, Tryd.ntmps21
    go_wp2_with fail
    refine (implTasksValid_any _ _ _ _ hA hl HP.out).mono ?_
    rintro e w1 ⟨rfl, hB1⟩
    rw [HI.out]
    go_wp2_with fail
    go_ret
    exact ⟨by rw [H3.out]; rfl, hB1⟩
  | true =>
    have HI := hide hI
    cases hR : (decide ((ss.length : Int) = l.length) && rangeOk 9999 ss) with
    | false =>
      have HR := hide hR
      have H3 : Hid (startsOkL l ss = false) := hide (by unfold startsOkL; rw [hR]; simp)
      clear hI hR
      go_enter Tryd.func21, Tryd.ntmps21
      go_wp2_with fail
      refine (implTasksValid_any _ _ _ _ hA hl HP.out).mono ?_
      rintro e w1 ⟨rfl, hB1⟩
      rw [HI.out]
      go_wp2_with fail
      refine (allInRange_any _ _ _ _ _ _ (hS.below hB1) hm).mono ?_
      rintro e w2 ⟨rfl, hB2⟩
      have hb2 := next hB1 hB2
      rw [HR.out]
      go_wp2_with fail
      go_ret
      exact ⟨by rw [H3.out]; rfl, hb2⟩
    | true =>
      have HR := hide hR
      have H0 : Hid (startsOkL l ss = startsGo l ss 0 l) := hide (by unfold startsOkL; rw [hI, hR]; rfl)
      obtain ⟨hr1, hr2⟩ : (ss.length : Int) = l.length ∧ rangeOk 9999 ss = true := by simpa using hR
      have HR2 := hide hr2
      obtain ⟨hla, hlb⟩ := eqLe (show ss.length = l.length by omega)
      clear hI hR hr1 hr2
      go_enter Tryd.func21, Tryd.ntmps21
      go_wp2_with fail
      refine (implTasksValid_any _ _ _ _ hA hl HP.out).mono ?_
      rintro e w1 ⟨rfl, hB1⟩
      rw [HI.out]
      go_wp2_with fail
      refine (allInRange_any _ _ _ _ _ _ (hS.below hB1) hm).mono ?_
      rintro e w2 ⟨rfl, hB2⟩
      have hb2 := next hB1 hB2
      rw [HR.out]
      go_wp2_with fail
      go_loopw [21] (fun i wr => ∃ k : Nat, k ≤ l.length ∧ i = .int .i64 k ∧ Hid (startsGo l ss 0 l = startsGo l ss k (l.drop k)) ∧ Below w.heap.size w wr) (fun i _ => l.length - (intOf i).toNat)
      case atStart => exact ⟨0, Nat.zero_le _, rfl, hide rfl, hb2⟩
      case round =>
        clear hb2 hB1 hB2
        obtain ⟨k, hk, rfl, HG, hb⟩ := hrel
        have hsz := hb.size
        by_cases hlt : k < l.length
        · obtain ⟨x, HX⟩ : ∃ x, Hid (l[k]? = some x) := ⟨_, hide (List.getElem?_eq_getElem hlt)⟩
          obtain ⟨b, off, C, e, rfl, hbl, hc1, hc2, hpa⟩ := (hA.below hb) k x HX.out
          have HD : Hid (l.drop k = x :: l.drop (k + 1)) := hide (by
            have := HX.out
            rw [List.getElem?_eq_getElem hlt] at this
            injection this with this
            rw [List.drop_eq_getElem_cons hlt, this])
          have hx : x.after.length ≤ 1048576 := HP.out _ (List.mem_of_getElem? HX.out)
          obtain ⟨s, HSK⟩ : ∃ s, Hid (ss[k]? = some s) := ⟨_, hide (List.getElem?_eq_getElem (by omega))⟩
          obtain ⟨b3, off3, rfl, hbl3, hs1⟩ := hS k s HSK.out
          have HSD : Hid (ss.getD k 0 = s) := hide (by rw [List.getD_eq_getElem?_getD, HSK.out]; rfl)
          have HT : Hid (∀ a ∈ x.after, 0 ≤ a ∧ a < (k : Int)) := hide (tasksOk_at HI.out HX.out).2
          have HS1 := hide hs1
          have HPA := hide hpa
          have hz : (0 : Int) ≤ k := by omega
          have hz2 : (k : Int) < l.length := by omega
          have hz3 : (k : Int) < ss.length := by omega
          clear hs1 hpa
          go_wp2_with fail
          have hbw : Below w.heap.size w (wr.alloc (.cells #[.int .i64 x.span, .slice C x.after.length e] 50)) := by go_grown
          have hbq : Below wr.heap.size wr (wr.alloc (.cells #[.int .i64 x.span, .slice C x.after.length e] 50)) := by go_grown
          have HPB := hide (HPA.out.below hbq)
          generalize hwo : wr.alloc (.cells #[.int .i64 x.span, .slice C x.after.length e] 50) = wo at *
          clear hwo hbq hc1 hc2 hbl hsz hb HPA
          go_loopw [29] (fun i wr => ∃ j : Nat, j ≤ x.after.length ∧ i = .int .i64 j ∧ Hid (precOk l ss s x.after = precOk l ss s (x.after.drop j)) ∧ Below wo.heap.size wo wr) (fun i _ => x.after.length - (intOf i).toNat)
          case atStart => exact ⟨0, Nat.zero_le _, rfl, hide rfl, Below.refl _ _⟩
          case round =>
            obtain ⟨j, hj, rfl, HJ, hbj⟩ := hrel
            have hb := next hbw hbj
            have hsz := hb.size
            have hq3 := (hb.cell hbl3).trans HS1.out
            by_cases hjt : j < x.after.length
            · obtain ⟨a, HAJ⟩ : ∃ a, Hid (x.after[j]? = some a) := ⟨_, hide (List.getElem?_eq_getElem hjt)⟩
              obtain ⟨b2, off2, rfl, hbl2, hd⟩ := (HPB.out.below hbj) j a HAJ.out
              have HDJ : Hid (x.after.drop j = a :: x.after.drop (j + 1)) := hide (by
                have := HAJ.out
                rw [List.getElem?_eq_getElem hjt] at this
                injection this with this
                rw [List.drop_eq_getElem_cons hjt, this])
              obtain ⟨m, rfl, hmk⟩ : ∃ m : Nat, a = m ∧ m < k := by
                have := HT.out a (List.mem_of_getElem? HAJ.out)
                exact ⟨a.toNat, by omega, by omega⟩
              obtain ⟨y, HY⟩ : ∃ y, Hid (l[m]? = some y) := ⟨_, hide (List.getElem?_eq_getElem (show m < l.length by omega))⟩
              obtain ⟨t, HTM⟩ : ∃ t, Hid (ss[m]? = some t) := ⟨_, hide (List.getElem?_eq_getElem (show m < ss.length by omega))⟩
              obtain ⟨b', off', _, _, hA', hbl', hy1, -, -⟩ := (hA.below hb) m y HY.out
              obtain ⟨rfl, rfl⟩ : b = b' ∧ off = off' := by simpa using hA'
              obtain ⟨b4, off4, hS4, hbl4, ht1⟩ := (hS.below hb) m t HTM.out
              obtain ⟨rfl, rfl⟩ : b3 = b4 ∧ off3 = off4 := by simpa using hS4
              obtain ⟨hy2, hy3⟩ := (tasksOk_at HI.out HY.out).1
              obtain ⟨ht2, ht3⟩ := rangeOk_at HR2.out HTM.out
              have HE : Hid (precOk l ss s x.after = (decide (¬ s < t + y.span) && precOk l ss s (x.after.drop (j + 1)))) := hide (by
                rw [HJ.out, HDJ.out, precOk]
                simp only [Int.toNat_natCast, List.getD_eq_getElem?_getD, HTM.out, HY.out, Option.getD_some])
              have hv : (0 : Int) ≤ j := by omega
              have hv2 : (j : Int) < x.after.length := by omega
              have hm0 : (0 : Int) ≤ m := by omega
              have hm1 : (m : Int) < l.length := by omega
              have hm2 : (m : Int) < ss.length := by omega
              clear hA' hS4
              generalize y.span = sp at *
              by_cases hcmp : s < t + sp
              · have H3 : Hid (startsOkL l ss = false) := hide (by rw [H0.out, HG.out, HD.out, startsGo, HSD.out, HE.out, decide_eq_false (fun h => h hcmp)]; rfl)
                go_wp2_with fail
                go_quiet (fail)
                go_wp2_with fail
                go_ret
                exact ⟨by rw [H3.out]; rfl, below_drewN hb _⟩
              · have H3 : Hid (precOk l ss s x.after = precOk l ss s (x.after.drop (j + 1))) := hide (by rw [HE.out, decide_eq_true hcmp]; rfl)
                go_wp2_with fail
                go_quiet (fail)
                go_wp2_with fail
                go_roundw
                case rel => exact ⟨j + 1, hjt, by go_num, H3, below_drewN hbj _⟩
                case measure => simp [intOf]; omega
            · have H3 : Hid (startsGo l ss 0 l = startsGo l ss (k + 1) (l.drop (k + 1))) := hide (by
                rw [HG.out, HD.out, startsGo, HSD.out, HJ.out, List.drop_of_length_le (by omega), precOk]
                rfl)
              go_wp2_with fail
              go_roundw
              case rel => exact ⟨k + 1, hlt, by go_num, H3, hb⟩
              case measure => simp [intOf]; omega
        · have H3 : Hid (startsOkL l ss = true) := hide (by rw [H0.out, HG.out, List.drop_of_length_le (by omega)]; rfl)
          go_wp2_with fail
          go_ret
          exact ⟨by rw [H3.out]; rfl, hb⟩

set_option maxHeartbeats 2000000 in
theorem specStartsOk_any (A B : Option Addr) (c d : Nat) (l : List Task) (ss : List Int) (w : World) (hA : TasksAt w A l) (hl : l.length ≤ 1048576) (hp : ∀ x ∈ l, x.after.length ≤ 1048576) (hS : IntsAt w B ss) (_hm : ss.length ≤ 1048576) :
    Calls Tryd.prog 22 #[.slice A l.length c, .slice B ss.length d] w fun e w' => e = .returned (.bool (startsOkL l ss)) ∧ Below w.heap.size w w' := by
  have HP := hide hp
  clear hp
  cases hI : tasksOk l with
  | false =>
    have HI := hide hI
    have H3 : Hid (startsOkL l ss = false) := hide (by unfold startsOkL; rw [hI]; rfl)
    clear hI
    go_enter Tryd.func22, Tryd.ntmps22
    go_wp2_with fail
    refine (specTasksValid_any _ _ _ _ hA hl HP.out).mono ?_
    rintro e w1 ⟨rfl, hB1⟩
    rw [HI.out]
    go_wp2_with fail
    go_ret
    exact ⟨by rw [H3.out]; rfl, hB1⟩
  | true =>
    have HI := hide hI
    by_cases hR : (ss.length : Int) = l.length
    · have hne : ((ss.length : Int) != l.length) = false := by simp [hR]
      have H0 : Hid (startsOkL l ss = (rangeOk 9999 ss && startsGo l ss 0 l)) := hide (by unfold startsOkL; rw [hI, decide_eq_true hR]; rfl)
      obtain ⟨hla, hlb⟩ := eqLe (show ss.length = l.length by omega)
      clear hI hR
      go_enter Tryd.func22, Tryd.ntmps22
      go_wp2_with fail
      refine (specTasksValid_any _ _ _ _ hA hl HP.out).mono ?_
      rintro e w1 ⟨rfl, hB1⟩
      rw [HI.out]
      go_wp2_with fail
      go_loopw [5] (fun i wr => ∃ k : Nat, k ≤ l.length ∧ i = .int .i64 k ∧ Hid (startsGo l ss 0 l = startsGo l ss k (l.drop k)) ∧ Hid (rangeOk 9999 ss = rangeOk 9999 (ss.drop k)) ∧ Hid (∀ i t, i < k → ss[i]? = some t → 0 ≤ t ∧ t ≤ 9999) ∧ Below w.heap.size w wr) (fun i _ => l.length - (intOf i).toNat)
      case atStart => exact ⟨0, Nat.zero_le _, rfl, hide rfl, hide rfl, hide (fun i t hi => absurd hi (by omega)), hB1⟩
      case round =>
        clear hB1
        obtain ⟨k, hk, rfl, HG, HR, HRS, hb0⟩ := hrel
        by_cases hlt : k < l.length
        · obtain ⟨x, HX⟩ : ∃ x, Hid (l[k]? = some x) := ⟨_, hide (List.getElem?_eq_getElem hlt)⟩
          obtain ⟨b, off, C, e, rfl, hbl, hc1, hc2, hpa⟩ := hA k x HX.out
          have HD : Hid (l.drop k = x :: l.drop (k + 1)) := hide (by
            have := HX.out
            rw [List.getElem?_eq_getElem hlt] at this
            injection this with this
            rw [List.drop_eq_getElem_cons hlt, this])
          have hx : x.after.length ≤ 1048576 := HP.out _ (List.mem_of_getElem? HX.out)
          obtain ⟨s, HSK⟩ : ∃ s, Hid (ss[k]? = some s) := ⟨_, hide (List.getElem?_eq_getElem (by omega))⟩
          obtain ⟨b3, off3, rfl, hbl3, hs1⟩ := hS k s HSK.out
          have HDS : Hid (ss.drop k = s :: ss.drop (k + 1)) := hide (by
            have := HSK.out
            rw [List.getElem?_eq_getElem (by omega)] at this
            injection this with this
            rw [List.drop_eq_getElem_cons (by omega), this])
          have HSD : Hid (ss.getD k 0 = s) := hide (by rw [List.getD_eq_getElem?_getD, HSK.out]; rfl)
          have HT : Hid (∀ a ∈ x.after, 0 ≤ a ∧ a < (k : Int)) := hide (tasksOk_at HI.out HX.out).2
          have HS1 := hide hs1
          have HC2 := hide hc2
          have HPA := hide hpa
          have hz : (0 : Int) ≤ k := by omega
          have hz2 : (k : Int) < l.length := by omega
          have hz3 : (k : Int) < ss.length := by omega
          have hq3 := (hb0.cell hbl3).trans HS1.out
          clear hs1 hpa hc1 hc2
          cases h1 : inR s 0 9999 with
          | false =>
            have H1 := hide h1
            have H3 : Hid (startsOkL l ss = false) := hide (by rw [H0.out, HR.out, HDS.out]; unfold rangeOk; rw [List.all_cons, h1]; rfl)
            clear h1
            go_wp2_with fail
            refine (l1In_is _ _ _ _ H1 _).mono ?_
            rintro e w' ⟨rfl, rfl⟩
            go_wp2_with fail
            go_ret
            exact ⟨by rw [H3.out]; rfl, hb0⟩
          | true =>
            have H1 := hide h1
            have HR' : Hid (rangeOk 9999 ss = rangeOk 9999 (ss.drop (k + 1))) := hide (by rw [HR.out, HDS.out]; unfold rangeOk; rw [List.all_cons, h1]; rfl)
            have HRS' : Hid (∀ i t, i < k + 1 → ss[i]? = some t → 0 ≤ t ∧ t ≤ 9999) := hide (fun i t hi ht => by
              by_cases e : i = k
              · subst e
                rw [HSK.out] at ht
                injection ht with ht
                subst ht
                exact inR_iff.1 H1.out
              · exact HRS.out i t (by omega) ht)
            clear h1
            go_wp2_with fail
            refine (l1In_is _ _ _ _ H1 _).mono ?_
            rintro e w' ⟨rfl, rfl⟩
            clear hq3
            go_wp2_with fail
            go_loopw [6] (fun i wr => ∃ j : Nat, j ≤ x.after.length ∧ i = .int .i64 j ∧ Hid (precOk l ss s x.after = precOk l ss s (x.after.drop j)) ∧ Below w.heap.size w wr) (fun i _ => x.after.length - (intOf i).toNat)
            case atStart => exact ⟨0, Nat.zero_le _, rfl, hide rfl, hb0⟩
            case round =>
              clear hb0
              obtain ⟨j, hj, rfl, HJ, hb⟩ := hrel
              have hsz := hb.size
              have hq2 := (hb.cell hbl).trans HC2.out
              have hq3 := (hb.cell hbl3).trans HS1.out
              by_cases hjt : j < x.after.length
              · obtain ⟨a, HAJ⟩ : ∃ a, Hid (x.after[j]? = some a) := ⟨_, hide (List.getElem?_eq_getElem hjt)⟩
                obtain ⟨b2, off2, rfl, hbl2, hd⟩ := (HPA.out.below hb) j a HAJ.out
                have HDJ : Hid (x.after.drop j = a :: x.after.drop (j + 1)) := hide (by
                  have := HAJ.out
                  rw [List.getElem?_eq_getElem hjt] at this
                  injection this with this
                  rw [List.drop_eq_getElem_cons hjt, this])
                obtain ⟨m, rfl, hmk⟩ : ∃ m : Nat, a = m ∧ m < k := by
                  have := HT.out a (List.mem_of_getElem? HAJ.out)
                  exact ⟨a.toNat, by omega, by omega⟩
                obtain ⟨y, HY⟩ : ∃ y, Hid (l[m]? = some y) := ⟨_, hide (List.getElem?_eq_getElem (show m < l.length by omega))⟩
                obtain ⟨t, HTM⟩ : ∃ t, Hid (ss[m]? = some t) := ⟨_, hide (List.getElem?_eq_getElem (show m < ss.length by omega))⟩
                obtain ⟨b', off', _, _, hA', hbl', hy1, -, -⟩ := (hA.below hb) m y HY.out
                obtain ⟨rfl, rfl⟩ : b = b' ∧ off = off' := by simpa using hA'
                obtain ⟨b4, off4, hS4, hbl4, ht1⟩ := (hS.below hb) m t HTM.out
                obtain ⟨rfl, rfl⟩ : b3 = b4 ∧ off3 = off4 := by simpa using hS4
                obtain ⟨hy2, hy3⟩ := (tasksOk_at HI.out HY.out).1
                obtain ⟨ht2, ht3⟩ := HRS.out m t hmk HTM.out
                have HE : Hid (precOk l ss s x.after = (decide (¬ s < t + y.span) && precOk l ss s (x.after.drop (j + 1)))) := hide (by
                  rw [HJ.out, HDJ.out, precOk]
                  simp only [Int.toNat_natCast, List.getD_eq_getElem?_getD, HTM.out, HY.out, Option.getD_some])
                have hv : (0 : Int) ≤ j := by omega
                have hv2 : (j : Int) < x.after.length := by omega
                have hm0 : (0 : Int) ≤ m := by omega
                have hm1 : (m : Int) < l.length := by omega
                have hm2 : (m : Int) < ss.length := by omega
                clear hA' hS4
                generalize y.span = sp at *
                by_cases hcmp : s < t + sp
                · have H3 : Hid (startsOkL l ss = false) := hide (by rw [H0.out, HG.out, HD.out, startsGo, HSD.out, HE.out, decide_eq_false (fun h => h hcmp)]; simp)
                  go_wp2_with fail
                  go_quiet (fail)
                  go_wp2_with fail
                  go_ret
                  exact ⟨by rw [H3.out]; rfl, below_drewN hb _⟩
                · have H3 : Hid (precOk l ss s x.after = precOk l ss s (x.after.drop (j + 1))) := hide (by rw [HE.out, decide_eq_true hcmp]; rfl)
                  go_wp2_with fail
                  go_quiet (fail)
                  go_wp2_with fail
                  go_roundw
                  case rel => exact ⟨j + 1, hjt, by go_num, H3, below_drewN hb _⟩
                  case measure => simp [intOf]; omega
              · have H3 : Hid (startsGo l ss 0 l = startsGo l ss (k + 1) (l.drop (k + 1))) := hide (by
                  rw [HG.out, HD.out, startsGo, HSD.out, HJ.out, List.drop_of_length_le (by omega), precOk]
                  rfl)
                go_wp2_with fail
                go_roundw
                case rel => exact ⟨k + 1, hlt, by go_num, H3, HR', HRS', hb⟩
                case measure => simp [intOf]; omega
        · have H3 : Hid (startsOkL l ss = true) := hide (by rw [H0.out, HR.out, HG.out, List.drop_of_length_le (by omega), List.drop_of_length_le (by omega)]; rfl)
          go_wp2_with fail
          go_ret
          exact ⟨by rw [H3.out]; rfl, hb0⟩
    · have hne : ((ss.length : Int) != l.length) = true := by simp [hR]
      have H3 : Hid (startsOkL l ss = false) := hide (by unfold startsOkL; rw [decide_eq_false hR]; simp)
      clear hI hR
      go_enter Tryd.func22, Tryd.ntmps22
      go_wp2_with fail
      refine (specTasksValid_any _ _ _ _ hA hl HP.out).mono ?_
      rintro e w1 ⟨rfl, hB1⟩
      rw [HI.out]
      go_wp2_with fail
      go_ret
      exact ⟨by rw [H3.out]; rfl, hB1⟩
end Go.Proofs.YtgagfaajilbmmaaDoor
