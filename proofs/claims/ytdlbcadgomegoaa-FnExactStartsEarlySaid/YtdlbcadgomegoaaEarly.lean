/- Contract of StartsEarly of the reference model: the list of times, one after the other.
   Conditions: the list and each task's numbers have at most 1048576 elements. -/
import Derived.Test.YtdlbcadgomegoaaStarts
import Derived.Test.YtdlbcadgomegoaaPush
import Derived.Test.YtdlbcadgomegoaaSlKit
namespace Go.Proofs.Ytdlbcadgomegoaa
open Go.RowKit

def upTo (l : List Task) (out : List Int) : Int → List Int → Int
  | t, [] => t
  | t, a :: r => upTo l out (if t < out.getD a.toNat 0 + (l.getD a.toNat default).span then out.getD a.toNat 0 + (l.getD a.toNat default).span else t) r
def earlyGo (l : List Task) : List Int → List Task → List Int
  | out, [] => out
  | out, x :: r => earlyGo l (out ++ [upTo l out 0 x.after]) r
def startsEarlyL (l : List Task) : List Int := if tasksOk l = true then earlyGo l [] l else []

set_option maxHeartbeats 2000000 in
theorem specStartsEarly_any (A : Option Addr) (c : Nat) (l : List Task) (w : World) (hA : TasksAt w A l) (hl : l.length ≤ 1048576) (hp : ∀ x ∈ l, x.after.length ≤ 1048576) :
    Calls Try.prog 28 #[.slice A l.length c] w fun e w' => ∃ v, e = .returned v ∧ IntSl w' w.heap.size v (startsEarlyL l) ∧ Below w.heap.size w w' := by
  have HP := hide hp
  clear hp
  have hO0 : IntSl (w.alloc (.cells #[] 3)) w.heap.size (.slice (some ⟨w.heap.size, 0, none⟩) 0 0) [] := World.ownsRow_lit w #[] 0 (Nat.le_refl _) (by unfold maxLen; omega) rfl
  have HO0 := hide hO0
  have hba : Below w.heap.size w (w.alloc (.cells #[] 3)) := by go_grown
  have HA0 := hide (hA.below hba)
  clear hO0
  cases hI : tasksOk l with
  | false =>
    have HI := hide hI
    have H3 : Hid (startsEarlyL l = []) := hide (by unfold startsEarlyL; rw [hI]; rfl)
    have hne : (0 : Int) < l.length := by
      cases l with
      | nil => cases hI
      | cons x r => simp only [List.length_cons]; omega
    clear hI
    go_enter Try.func28, Try.ntmps28
    go_wp2_with fail
    go_loopw [3, 4] (fun ov i wr => ov = .slice (some ⟨w.heap.size, 0, none⟩) 0 0 ∧ i = .int .i64 0 ∧ wr = w.alloc (.cells #[] 3)) (fun _ _ _ => 0)
    case atStart => exact ⟨rfl, rfl, rfl⟩
    case round =>
      obtain ⟨rfl, rfl, rfl⟩ := hrel
      go_wp2_with fail
      refine (specTasksValid_any _ _ _ _ HA0.out hl HP.out).mono ?_
      rintro e w1 ⟨rfl, hB1⟩
      rw [HI.out]
      have HP1 := hide (IntSl.below HO0.out hB1)
      have hb1 := next hba hB1
      go_wp2_with fail
      refine bodyPost_ret (results_tmp rfl _ _ _) rfl ⟨_, rfl, by rw [H3.out]; exact HP1.out, hb1⟩
  | true =>
    have HI := hide hI
    have h7 := tasksOk_len hI
    have H0 : Hid (startsEarlyL l = earlyGo l [] l) := hide (by unfold startsEarlyL; rw [if_pos hI])
    clear hI
    go_enter Try.func28, Try.ntmps28
    go_wp2_with fail
    go_loopw [3, 4] (fun ov i wr => ∃ (k : Nat) (out : List Int), k ≤ l.length ∧ i = .int .i64 k ∧ Hid (out.length = k ∧ (∀ t ∈ out, 0 ≤ t ∧ t ≤ 30 * (k : Int)) ∧ startsEarlyL l = earlyGo l out (l.drop k)) ∧ IntSl wr w.heap.size ov out ∧ Below w.heap.size w wr) (fun _ i _ => l.length - (intOf i).toNat)
    case atStart => exact ⟨0, [], Nat.zero_le _, rfl, hide ⟨rfl, fun t ht => by simp at ht, by rw [H0.out]; rfl⟩, HO0.out, hba⟩
    case round =>
      clear hba HO0 HA0 H0
      obtain ⟨k, out, hk, rfl, HF, hS0, hb0⟩ := hrel
      by_cases hlt : k < l.length
      · obtain ⟨x, HX⟩ : ∃ x, Hid (l[k]? = some x) := ⟨_, hide (List.getElem?_eq_getElem hlt)⟩
        obtain ⟨b, off, C, d, rfl, hbl, hc1, hc2, hpa⟩ := hA k x HX.out
        have HD : Hid (l.drop k = x :: l.drop (k + 1)) := hide (by
          have := HX.out
          rw [List.getElem?_eq_getElem hlt] at this
          injection this with this
          rw [List.drop_eq_getElem_cons hlt, this])
        have hx : x.after.length ≤ 1048576 := HP.out _ (List.mem_of_getElem? HX.out)
        have HT : Hid (∀ a ∈ x.after, 0 ≤ a ∧ a < (k : Int)) := hide (tasksOk_at HI.out HX.out).2
        have HC2 := hide hc2
        have HPA := hide hpa
        have hz : (0 : Int) ≤ k := by omega
        have hz2 : (k : Int) < l.length := by omega
        clear hc1 hc2 hpa
        obtain ⟨Ao, co, hu, -⟩ := hS0.form
        subst hu
        have HS0 := hide hS0
        clear hS0
        go_wp2_with fail
        refine (specTasksValid_any _ _ _ _ (hA.below hb0) hl HP.out).mono ?_
        rintro e w1 ⟨rfl, hB1⟩
        rw [HI.out]
        have HS1 := hide (IntSl.below HS0.out hB1)
        have hb1 := next hb0 hB1
        clear HS0 hb0 hB1
        go_wp2_with fail
        go_loopw [5, 6] (fun tv i wr => ∃ (j : Nat) (t : Int), j ≤ x.after.length ∧ i = .int .i64 j ∧ tv = .int .i64 t ∧ 0 ≤ t ∧ t ≤ 30 * (k : Int) + 30 ∧ Hid (upTo l out 0 x.after = upTo l out t (x.after.drop j)) ∧ IntSl wr w.heap.size (.slice Ao out.length co) out ∧ Below w.heap.size w wr) (fun _ i _ => x.after.length - (intOf i).toNat)
        case atStart => exact ⟨0, 0, Nat.zero_le _, rfl, rfl, by omega, by omega, hide rfl, HS1.out, hb1⟩
        case round =>
          clear HS1 hb1
          obtain ⟨j, t, hj, rfl, rfl, ht0, ht1, HU, hS, hb⟩ := hrel
          have hsz := hb.size
          have hq2 := (hb.cell hbl).trans HC2.out
          by_cases hjt : j < x.after.length
          · obtain ⟨a, HAJ⟩ : ∃ a, Hid (x.after[j]? = some a) := ⟨_, hide (List.getElem?_eq_getElem hjt)⟩
            obtain ⟨b2, off2, rfl, hbl2, hd⟩ := (HPA.out.below hb) j a HAJ.out
            have HDJ : Hid (x.after.drop j = a :: x.after.drop (j + 1)) := hide (by
              have := HAJ.out
              rw [List.getElem?_eq_getElem hjt] at this
              injection this with this
              rw [List.drop_eq_getElem_cons hjt, this])
            obtain ⟨m, rfl, hmk⟩ : ∃ m : Nat, a = m ∧ m < k := by
              have := HT.out a (List.mem_of_getElem? HAJ.out)
              exact ⟨a.toNat, by omega, by omega⟩
            have hmo : m < out.length := by have := HF.out.1; omega
            obtain ⟨y, HY⟩ : ∃ y, Hid (l[m]? = some y) := ⟨_, hide (List.getElem?_eq_getElem (show m < l.length by omega))⟩
            obtain ⟨s, HSM⟩ : ∃ s, Hid (out[m]? = some s) := ⟨_, hide (List.getElem?_eq_getElem hmo)⟩
            obtain ⟨b', off', _, _, hA', hbl', hy1, -, -⟩ := (hA.below hb) m y HY.out
            obtain ⟨rfl, rfl⟩ : b = b' ∧ off = off' := by simpa using hA'
            obtain ⟨b4, off4, hAo, hbl4, hs1⟩ := hS.ints m s HSM.out
            obtain ⟨hy2, hy3⟩ := (tasksOk_at HI.out HY.out).1
            obtain ⟨hs2, hs3⟩ := HF.out.2.1 s (List.mem_of_getElem? HSM.out)
            have HU2 : Hid (upTo l out 0 x.after = upTo l out (if t < s + y.span then s + y.span else t) (x.after.drop (j + 1))) := hide (by
              rw [HU.out, HDJ.out, upTo]
              simp only [Int.toNat_natCast, List.getD_eq_getElem?_getD, HSM.out, HY.out, Option.getD_some])
            have hv : (0 : Int) ≤ j := by omega
            have hv2 : (j : Int) < x.after.length := by omega
            have hm0 : (0 : Int) ≤ m := by omega
            have hm1 : (m : Int) < l.length := by omega
            have hm2 : (m : Int) < out.length := by omega
            have HSS := hide hS
            clear hA' hS
            subst hAo
            generalize y.span = sp at *
            go_wp2_with fail
            go_quiet (fail)
            go_wp2_with fail
            go_roundw
            case rel => exact ⟨j + 1, if t < s + sp then s + sp else t, hjt, by go_num, by first | rfl | go_num, by split <;> omega, by split <;> omega, HU2, IntSl.below HSS.out (below_drewN (Below.refl _ _) _), below_drewN hb _⟩
            case measure => simp [intOf]; omega
          · have HV : Hid (upTo l out 0 x.after = t) := hide (by rw [HU.out, List.drop_of_length_le (by omega), upTo])
            have HF2 : Hid ((out ++ [t]).length = k + 1 ∧ (∀ s ∈ out ++ [t], 0 ≤ s ∧ s ≤ 30 * ((k + 1 : Nat) : Int)) ∧ startsEarlyL l = earlyGo l (out ++ [t]) (l.drop (k + 1))) := hide (by
              refine ⟨by rw [List.length_append, HF.out.1]; rfl, fun s hs => ?_, by rw [HF.out.2.2, HD.out, earlyGo, HV.out]⟩
              rcases List.mem_append.1 hs with h | h
              · have := HF.out.2.1 s h
                omega
              · obtain rfl : s = t := by simpa using h
                omega)
            have hlo : out.length ≤ 1048576 := by have := HF.out.1; omega
            have HSA := hide (World.ownsRow.alloc hS (.cells #[.int .i64 t] 3))
            have HBA := hide (hb.alloc hsz (.cells #[.int .i64 t] 3))
            have HLT := hide (World.ownsRow.lt hS)
            clear hS
            go_wp2_with (at_builtin; refine wpList_push_int rfl _ _ rfl w.heap.size (.slice Ao out.length co) out rfl HSA.out wr.heap.size t rfl (heap_alloc_new wr _) (by omega) (by simp; omega) ?_; intro g5 cap w5 hown hgrow hnew)
            have hb5 : Below w.heap.size w w5 := HBA.out.grown hgrow (by simp; omega) (fun k hk => (HLT.out k hk).1)
            clear hgrow hnew
            go_wp2_with fail
            go_roundw
            case rel => exact ⟨k + 1, out ++ [t], hlt, by go_num, HF2, hown, hb5⟩
            case measure => simp [intOf]; omega
      · have H3 : Hid (startsEarlyL l = out) := hide (by rw [HF.out.2.2, List.drop_of_length_le (by omega), earlyGo])
        go_wp2_with fail
        refine bodyPost_ret (results_tmp rfl _ _ _) rfl ⟨_, rfl, by rw [H3.out]; exact hS0, hb0⟩
end Go.Proofs.Ytdlbcadgomegoaa
