/- Contracts of TasksValid and its helper, of the program and of the reference model: both compute one function of the list.
   Conditions: the list and each task's numbers have at most 1048576 elements. -/
import Derived.Test.YtgpcbigaeodhfaaDoorTasks
namespace Go.Proofs.YtgpcbigaeodhfaaDoor
open Go.RowKit

def ascGo (limit : Int) : Int → List Int → Bool
  | _, [] => true
  | least, n :: r => inR n least (limit - 1) && ascGo limit (n + 1) r

def taskOk (x : Task) (k : Int) : Bool := inR x.span 0 30 && ascGo k 0 x.after
def tasksGo : Int → List Task → Bool
  | _, [] => true
  | k, x :: r => taskOk x k && tasksGo (k + 1) r
def tasksOk (l : List Task) : Bool := decide (l.length ≤ 7) && tasksGo 0 l

theorem tasksOk_len {l : List Task} (h : tasksOk l = true) : l.length ≤ 7 := by
  unfold tasksOk at h
  simp only [Bool.and_eq_true, decide_eq_true_eq] at h
  exact h.1

def l1Asc (limit : Int) : Int → List Int → Bool
  | _, [] => true
  | prev, p :: r => inR p 0 (limit - 1) && (decide (prev < p) && l1Asc limit p r)

theorem l1Asc_eq (limit : Int) (xs : List Int) : ∀ prev, -1 ≤ prev → l1Asc limit prev xs = ascGo limit (prev + 1) xs := by
  induction xs with
  | nil => intro prev _; rfl
  | cons p r ih =>
    intro prev h
    have e1 : (inR p 0 (limit - 1) && decide (prev < p)) = inR p (prev + 1) (limit - 1) := by
      rw [Bool.eq_iff_iff]; simp only [Bool.and_eq_true, inR_iff, decide_eq_true_eq]; omega
    unfold l1Asc ascGo
    rw [← e1]
    cases h1 : inR p 0 (limit - 1)
    · rfl
    · rw [ih _ (by rw [inR_iff] at h1; omega)]
      cases decide (prev < p) <;> rfl

set_option maxHeartbeats 800000 in
theorem ascendingBelow_any (A : Option Addr) (c : Nat) (xs : List Int) (limit : Int) (w : World) (hA : IntsAt w A xs) (hl : xs.length ≤ 1048576) (h0 : 0 ≤ limit) (h1 : limit ≤ 1048576) :
    Calls Tryd.prog 69 #[.slice A xs.length c, .int .i64 limit] w fun e w' => e = .returned (.bool (ascGo limit 0 xs)) ∧ Below w.heap.size w w' := by
  go_enter Tryd.func69, Tryd.ntmps69
  go_wp2_with fail
  go_loopw [5, 10] (fun le i wr => ∃ (k : Nat) (least : Int), k ≤ xs.length ∧ i = .int .i64 k ∧ le = .int .i64 least ∧ 0 ≤ least ∧ Hid (ascGo limit 0 xs = ascGo limit least (xs.drop k)) ∧ Below w.heap.size w wr) (fun _ i _ => xs.length - (intOf i).toNat)
  case atStart => exact ⟨0, 0, Nat.zero_le _, rfl, rfl, by omega, hide rfl, Below.refl _ _⟩
  case round =>
    obtain ⟨k, least, hk, rfl, rfl, hle, HG, hb⟩ := hrel
    have hsz := hb.size
    by_cases hlt : k < xs.length
    · obtain ⟨b, off, rfl, hbl, hc1⟩ := (hA.below hb) k xs[k] (List.getElem?_eq_getElem hlt)
      have HD : Hid (xs.drop k = xs[k] :: xs.drop (k + 1)) := hide (List.drop_eq_getElem_cons hlt)
      generalize xs[k] = p at *
      have hz : (0 : Int) ≤ k := by omega
      have hz2 : (k : Int) < xs.length := by omega
      cases h2 : inR p least (limit - 1) with
      | false =>
        have H2 := hide h2
        have H3 : Hid (ascGo limit 0 xs = false) := hide (by rw [HG.out, HD.out, ascGo, h2]; rfl)
        clear h2
        go_wp2_with fail
        refine (inRange_is _ _ _ _ H2 _).mono ?_
        rintro e w' ⟨rfl, rfl⟩
        go_wp2_with fail
        go_ret
        exact ⟨by rw [H3.out]; rfl, hb⟩
      | true =>
        have H2 := hide h2
        obtain ⟨hp0, hp1⟩ := inR_iff.1 h2
        have H3 : Hid (ascGo limit 0 xs = ascGo limit (p + 1) (xs.drop (k + 1))) := hide (by rw [HG.out, HD.out, ascGo, h2]; rfl)
        clear h2
        go_wp2_with fail
        refine (inRange_is _ _ _ _ H2 _).mono ?_
        rintro e w' ⟨rfl, rfl⟩
        go_wp2_with fail
        go_roundw
        case rel => exact ⟨k + 1, p + 1, hlt, by go_num, rfl, by omega, H3, hb⟩
        case measure => simp [intOf]; omega
    · have H3 : Hid (ascGo limit 0 xs = true) := hide (by rw [HG.out, List.drop_of_length_le (by omega)]; rfl)
      go_wp2_with fail
      go_ret
      exact ⟨by rw [H3.out]; rfl, hb⟩

end Go.Proofs.YtgpcbigaeodhfaaDoor
