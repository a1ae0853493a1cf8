/- Contract of StartsEarly of the reference model: the list of times, one after the other.
   Conditions: the list and each task's numbers have at most 1048576 elements.
   The list of times at which tasks begin as early as they can: its length and its bounds.
   Conditions: the tasks are valid.
   Each time of the list of earliest times is the latest end of what must be done before.
   Conditions: the tasks are valid. -/
import Derived.Test.YtgagfaajilbmmaaDoorStarts
import Derived.Test.YtgagfaajilbmmaaDoorZeros
import Derived.Test.YtgagfaajilbmmaaDoorSlKit
import Derived.Test.YtgagfaajilbmmaaDoorLeast
namespace Go.Proofs.YtgagfaajilbmmaaDoor
open Go.RowKit

def upTo (l : List Task) (out : List Int) : Int → List Int → Int
  | t, [] => t
  | t, a :: r => upTo l out (if t < out.getD a.toNat 0 + (l.getD a.toNat default).span then out.getD a.toNat 0 + (l.getD a.toNat default).span else t) r
def earlyGo (l : List Task) : List Int → List Task → List Int
  | out, [] => out
  | out, x :: r => earlyGo l (out ++ [upTo l out 0 x.after]) r
def startsEarlyL (l : List Task) : List Int := if tasksOk l = true then earlyGo l [] l else []

set_option maxHeartbeats 2000000 in
theorem specStartsEarly_any (A : Option Addr) (c : Nat) (l : List Task) (w : World) (hA : TasksAt w A l) (hl : l.length ≤ 1048576) (hp : ∀ x ∈ l, x.after.length ≤ 1048576) :
    Calls Tryd.prog 69 #[.slice A l.length c] w fun e w' => ∃ v, e = .returned v ∧ IntSl w' w.heap.size v (startsEarlyL l) ∧ Below w.heap.size w w' := by
  have HP := hide hp
  clear hp
  have hO0 : IntSl (w.alloc (.cells #[] 3)) w.heap.size (.slice (some ⟨w.heap.size, 0, none⟩) 0 0) [] := World.ownsRow_lit w #[] 0 (Nat.le_refl _) (by unfold maxLen; omega) rfl
  have HO0 := hide hO0
  have hba : Below w.heap.size w (w.alloc (.cells #[] 3)) := by go_grown
  have HA0 := hide (hA.below hba)
  clear hO0
  cases hI : tasksOk l with
  | false =>
    have HI := hide hI
    have H3 : Hid (startsEarlyL l = []) := hide (by unfold startsEarlyL; rw [hI]; rfl)
    have hne : (0 : Int) < l.length := by
      cases l with
      | nil => cases hI
      | cons x r => simp only [List.length_cons]; omega
    clear hI
    go_enter Tryd.func69, Tryd.ntmps69
    go_wp2_with fail
    go_loopw [3, 4] (fun ov i wr => ov = .slice (some ⟨w.heap.size, 0, none⟩) 0 0 ∧ i = .int .i64 0 ∧ wr = w.alloc (.cells #[] 3)) (fun _ _ _ => 0)
    case atStart => exact ⟨rfl, rfl, rfl⟩
    case round =>
      obtain ⟨rfl, rfl, rfl⟩ := hrel
      go_wp2_with fail
      refine (specTasksValid_any _ _ _ _ HA0.out hl HP.out).mono ?_
      rintro e w1 ⟨rfl, hB1⟩
      rw [HI.out]
      have HP1 := hide (IntSl.below HO0.out hB1)
      have hb1 := next hba hB1
      go_wp2_with fail
      refine bodyPost_ret (results_tmp rfl _ _ _) rfl ⟨_, rfl, by rw [H3.out]; exact HP1.out, hb1⟩
  | true =>
    have HI := hide hI
    have h7 := tasksOk_len hI
    have H0 : Hid (startsEarlyL l = earlyGo l [] l) := hide (by unfold startsEarlyL; rw [if_pos hI])
    clear hI
    go_enter Tryd.func69, Tryd.ntmps69
    go_wp2_with fail
    go_loopw [3, 4] (fun ov i wr => ∃ (k : Nat) (out : List Int), k ≤ l.length ∧ i = .int .i64 k ∧ Hid (out.length = k ∧ (∀ t ∈ out, 0 ≤ t ∧ t ≤ 30 * (k : Int)) ∧ startsEarlyL l = earlyGo l out (l.drop k)) ∧ IntSl wr w.heap.size ov out ∧ Below w.heap.size w wr) (fun _ i _ => l.length - (intOf i).toNat)
    case atStart => exact ⟨0, [], Nat.zero_le _, rfl, hide ⟨rfl, fun t ht => by simp at ht, by rw [H0.out]; rfl⟩, HO0.out, hba⟩
    case round =>
      clear hba HO0 HA0 H0
      obtain ⟨k, out, hk, rfl, HF, hS0, hb0⟩ := hrel
      by_cases hlt : k < l.length
      · obtain ⟨x, HX⟩ : ∃ x, Hid (l[k]? = some x) := ⟨_, hide (List.getElem?_eq_getElem hlt)⟩
        obtain ⟨b, off, C, d, rfl, hbl, hc1, hc2, hpa⟩ := hA k x HX.out
        have HD : Hid (l.drop k = x :: l.drop (k + 1)) := hide (by
          have := HX.out
          rw [List.getElem?_eq_getElem hlt] at this
          injection this with this
          rw [List.drop_eq_getElem_cons hlt, this])
        have hx : x.after.length ≤ 1048576 := HP.out _ (List.mem_of_getElem? HX.out)
        have HT : Hid (∀ a ∈ x.after, 0 ≤ a ∧ a < (k : Int)) := hide (tasksOk_at HI.out HX.out).2
        have HC2 := hide hc2
        have HPA := hide hpa
        have hz : (0 : Int) ≤ k := by omega
        have hz2 : (k : Int) < l.length := by omega
        clear hc1 hc2 hpa
        obtain ⟨Ao, co, hu, -⟩ := hS0.form
        subst hu
        have HS0 := hide hS0
        clear hS0
        go_wp2_with fail
        refine (specTasksValid_any _ _ _ _ (hA.below hb0) hl HP.out).mono ?_
        rintro e w1 ⟨rfl, hB1⟩
        rw [HI.out]
        have HS1 := hide (IntSl.below HS0.out hB1)
        have hb1 := next hb0 hB1
        clear HS0 hb0 hB1
        go_wp2_with fail
        go_loopw [5, 6] (fun tv i wr => ∃ (j : Nat) (t : Int), j ≤ x.after.length ∧ i = .int .i64 j ∧ tv = .int .i64 t ∧ 0 ≤ t ∧ t ≤ 30 * (k : Int) + 30 ∧ Hid (upTo l out 0 x.after = upTo l out t (x.after.drop j)) ∧ IntSl wr w.heap.size (.slice Ao out.length co) out ∧ Below w.heap.size w wr) (fun _ i _ => x.after.length - (intOf i).toNat)
        case atStart => exact ⟨0, 0, Nat.zero_le _, rfl, rfl, by omega, by omega, hide rfl, HS1.out, hb1⟩
        case round =>
          clear HS1 hb1
          obtain ⟨j, t, hj, rfl, rfl, ht0, ht1, HU, hS, hb⟩ := hrel
          have hsz := hb.size
          have hq2 := (hb.cell hbl).trans HC2.out
          by_cases hjt : j < x.after.length
          · obtain ⟨a, HAJ⟩ : ∃ a, Hid (x.after[j]? = some a) := ⟨_, hide (List.getElem?_eq_getElem hjt)⟩
            obtain ⟨b2, off2, rfl, hbl2, hd⟩ := (HPA.out.below hb) j a HAJ.out
            have HDJ : Hid (x.after.drop j = a :: x.after.drop (j + 1)) := hide (by
              have := HAJ.out
              rw [List.getElem?_eq_getElem hjt] at this
              injection this with this
              rw [List.drop_eq_getElem_cons hjt, this])
            obtain ⟨m, rfl, hmk⟩ : ∃ m : Nat, a = m ∧ m < k := by
              have := HT.out a (List.mem_of_getElem? HAJ.out)
              exact ⟨a.toNat, by omega, by omega⟩
            have hmo : m < out.length := by have := HF.out.1; omega
            obtain ⟨y, HY⟩ : ∃ y, Hid (l[m]? = some y) := ⟨_, hide (List.getElem?_eq_getElem (show m < l.length by omega))⟩
            obtain ⟨s, HSM⟩ : ∃ s, Hid (out[m]? = some s) := ⟨_, hide (List.getElem?_eq_getElem hmo)⟩
            obtain ⟨b', off', _, _, hA', hbl', hy1, -, -⟩ := (hA.below hb) m y HY.out
            obtain ⟨rfl, rfl⟩ : b = b' ∧ off = off' := by simpa using hA'
            obtain ⟨b4, off4, hAo, hbl4, hs1⟩ := hS.ints m s HSM.out
            obtain ⟨hy2, hy3⟩ := (tasksOk_at HI.out HY.out).1
            obtain ⟨hs2, hs3⟩ := HF.out.2.1 s (List.mem_of_getElem? HSM.out)
            have HU2 : Hid (upTo l out 0 x.after = upTo l out (if t < s + y.span then s + y.span else t) (x.after.drop (j + 1))) := hide (by
              rw [HU.out, HDJ.out, upTo]
              simp only [Int.toNat_natCast, List.getD_eq_getElem?_getD, HSM.out, HY.out, Option.getD_some])
            have hv : (0 : Int) ≤ j := by omega
            have hv2 : (j : Int) < x.after.length := by omega
            have hm0 : (0 : Int) ≤ m := by omega
            have hm1 : (m : Int) < l.length := by omega
            have hm2 : (m : Int) < out.length := by omega
            have HSS := hide hS
            clear hA' hS
            subst hAo
            generalize y.span = sp at *
            go_wp2_with fail
            go_quiet (fail)
            go_wp2_with fail
            go_roundw
            case rel => exact ⟨j + 1, if t < s + sp then s + sp else t, hjt, by go_num, by first | rfl | go_num, by split <;> omega, by split <;> omega, HU2, IntSl.below HSS.out (below_drewN (Below.refl _ _) _), below_drewN hb _⟩
            case measure => simp [intOf]; omega
          · have HV : Hid (upTo l out 0 x.after = t) := hide (by rw [HU.out, List.drop_of_length_le (by omega), upTo])
            have HF2 : Hid ((out ++ [t]).length = k + 1 ∧ (∀ s ∈ out ++ [t], 0 ≤ s ∧ s ≤ 30 * ((k + 1 : Nat) : Int)) ∧ startsEarlyL l = earlyGo l (out ++ [t]) (l.drop (k + 1))) := hide (by
              refine ⟨by rw [List.length_append, HF.out.1]; rfl, fun s hs => ?_, by rw [HF.out.2.2, HD.out, earlyGo, HV.out]⟩
              rcases List.mem_append.1 hs with h | h
              · have := HF.out.2.1 s h
                omega
              · obtain rfl : s = t := by simpa using h
                omega)
            have hlo : out.length ≤ 1048576 := by have := HF.out.1; omega
            have HSA := hide (World.ownsRow.alloc hS (.cells #[.int .i64 t] 3))
            have HBA := hide (hb.alloc hsz (.cells #[.int .i64 t] 3))
            have HLT := hide (World.ownsRow.lt hS)
            clear hS
            go_wp2_with (at_builtin; refine wpList_push_int rfl _ _ rfl w.heap.size (.slice Ao out.length co) out rfl HSA.out wr.heap.size t rfl (heap_alloc_new wr _) (by omega) (by simp; omega) ?_; intro g5 cap w5 hown hgrow hnew)
            have hb5 : Below w.heap.size w w5 := HBA.out.grown hgrow (by simp; omega) (fun k hk => (HLT.out k hk).1)
            clear hgrow hnew
            go_wp2_with fail
            go_roundw
            case rel => exact ⟨k + 1, out ++ [t], hlt, by go_num, HF2, hown, hb5⟩
            case measure => simp [intOf]; omega
      · have H3 : Hid (startsEarlyL l = out) := hide (by rw [HF.out.2.2, List.drop_of_length_le (by omega), earlyGo])
        go_wp2_with fail
        refine bodyPost_ret (results_tmp rfl _ _ _) rfl ⟨_, rfl, by rw [H3.out]; exact hS0, hb0⟩
end Go.Proofs.YtgagfaajilbmmaaDoor

namespace Go.Proofs.YtgagfaajilbmmaaDoor
open Go.RowKit

theorem getD_range {out : List Int} {B : Int} (hB : 0 ≤ B) (h : ∀ t ∈ out, 0 ≤ t ∧ t ≤ B) (i : Nat) : 0 ≤ out.getD i 0 ∧ out.getD i 0 ≤ B := by
  rw [List.getD_eq_getElem?_getD]
  cases e : out[i]? with
  | none => exact ⟨Int.le_refl _, hB⟩
  | some t => exact h t (List.mem_of_getElem? e)

theorem getD_span {l : List Task} (h : ∀ y ∈ l, 0 ≤ y.span ∧ y.span ≤ 30) (i : Nat) : 0 ≤ (l.getD i default).span ∧ (l.getD i default).span ≤ 30 := by
  rw [List.getD_eq_getElem?_getD]
  cases e : l[i]? with
  | none => exact ⟨Int.le_refl _, by show (0 : Int) ≤ 30; omega⟩
  | some t => exact h t (List.mem_of_getElem? e)

theorem upTo_ok {l : List Task} {out : List Int} {B : Int} (hB : 0 ≤ B) (hl : ∀ y ∈ l, 0 ≤ y.span ∧ y.span ≤ 30) (h : ∀ t ∈ out, 0 ≤ t ∧ t ≤ B) : ∀ (xs : List Int) (t : Int), 0 ≤ t → t ≤ B + 30 → 0 ≤ upTo l out t xs ∧ upTo l out t xs ≤ B + 30
  | [], t, h0, h1 => ⟨h0, h1⟩
  | a :: r, t, h0, h1 => by
    have g1 := getD_range hB h a.toNat
    have g2 := getD_span hl a.toNat
    rw [upTo]
    exact upTo_ok hB hl h r _ (by split <;> omega) (by split <;> omega)

theorem earlyGo_len (l : List Task) : ∀ (r : List Task) (out : List Int), (earlyGo l out r).length = out.length + r.length
  | [], out => by simp [earlyGo]
  | x :: r, out => by rw [earlyGo, earlyGo_len l r, List.length_append, List.length_cons, List.length_cons, List.length_nil]; omega

theorem earlyGo_ok {l : List Task} (hl : ∀ y ∈ l, 0 ≤ y.span ∧ y.span ≤ 30) : ∀ (r : List Task) (out : List Int), (∀ t ∈ out, 0 ≤ t ∧ t ≤ 30 * (out.length : Int)) → ∀ t ∈ earlyGo l out r, 0 ≤ t ∧ t ≤ 30 * ((out.length : Int) + r.length)
  | [], out, h, t, ht => by
    have := h t ht
    simp only [List.length_nil]
    omega
  | x :: r, out, h, t, ht => by
    have hu := upTo_ok (B := 30 * (out.length : Int)) (by omega) hl h x.after 0 (by omega) (by omega)
    have := earlyGo_ok hl r (out ++ [upTo l out 0 x.after]) (fun s hs => by
      rw [List.length_append, List.length_cons, List.length_nil]
      rcases List.mem_append.1 hs with e | e
      · have := h s e
        omega
      · obtain rfl : s = upTo l out 0 x.after := by simpa using e
        omega) t (by rw [earlyGo] at ht; exact ht)
    rw [List.length_append, List.length_cons, List.length_nil] at this
    rw [List.length_cons]
    omega

theorem tasks_span {l : List Task} (h : tasksOk l = true) : ∀ y ∈ l, 0 ≤ y.span ∧ y.span ≤ 30 := fun y hy => by
  obtain ⟨i, hi⟩ := List.mem_iff_getElem?.1 hy
  exact (tasksOk_at h hi).1

theorem startsEarlyL_len {l : List Task} (h : tasksOk l = true) : (startsEarlyL l).length = l.length := by
  unfold startsEarlyL
  rw [if_pos h, earlyGo_len]
  simp

theorem startsEarlyL_ok {l : List Task} (h : tasksOk l = true) : ∀ t ∈ startsEarlyL l, 0 ≤ t ∧ t ≤ 210 := fun t ht => by
  unfold startsEarlyL at ht
  rw [if_pos h] at ht
  have := earlyGo_ok (tasks_span h) l [] (fun s hs => by simp at hs) t ht
  have h7 := tasksOk_len h
  simp only [List.length_nil] at this
  omega

theorem startsEarlyL_le (l : List Task) : (startsEarlyL l).length ≤ 1048576 := by
  by_cases h : tasksOk l = true
  · rw [startsEarlyL_len h]
    have := tasksOk_len h
    omega
  · unfold startsEarlyL
    rw [if_neg h]
    simp

/-- When each task is done. -/
def donesL (l : List Task) : List Int := List.zipWith (fun s x => s + x.span) (startsEarlyL l) l
def tasksEndL (l : List Task) : Int := if tasksOk l = true then maxFrom 0 (donesL l) else -1

set_option maxHeartbeats 2000000 in
theorem specTasksEnd_any (A : Option Addr) (c : Nat) (l : List Task) (w : World) (hA : TasksAt w A l) (hl : l.length ≤ 1048576) (hp : ∀ x ∈ l, x.after.length ≤ 1048576) :
    Calls Tryd.prog 76 #[.slice A l.length c] w fun e w' => e = .returned (.int .i64 (tasksEndL l)) ∧ Below w.heap.size w w' := by
  have HP := hide hp
  clear hp
  cases hI : tasksOk l with
  | false =>
    have HI := hide hI
    have H3 : Hid (tasksEndL l = -1) := hide (by unfold tasksEndL; rw [hI]; rfl)
    clear hI
    go_enter Tryd.func76, Tryd.ntmps76
    go_wp2_with fail
    refine (specTasksValid_any _ _ _ _ hA hl HP.out).mono ?_
    rintro e w1 ⟨rfl, hB1⟩
    rw [HI.out]
    go_wp2_with fail
    go_ret
    exact ⟨by rw [H3.out]; rfl, hB1⟩
  | true =>
    have HI := hide hI
    obtain ⟨ss, HSS⟩ : ∃ ss, Hid (startsEarlyL l = ss) := ⟨_, hide rfl⟩
    have HSO : Hid (∀ t ∈ ss, 0 ≤ t ∧ t ≤ 210) := hide (by rw [← HSS.out]; exact startsEarlyL_ok hI)
    obtain ⟨hla, hlb⟩ := eqLe (show ss.length = l.length by rw [← HSS.out]; exact startsEarlyL_len hI)
    have H0 : Hid (tasksEndL l = maxFrom 0 (List.zipWith (fun s x => s + x.span) (ss.drop 0) (l.drop 0))) := hide (by unfold tasksEndL donesL; rw [if_pos hI, HSS.out]; rfl)
    clear hI
    go_enter Tryd.func76, Tryd.ntmps76
    go_wp2_with fail
    refine (specTasksValid_any _ _ _ _ hA hl HP.out).mono ?_
    rintro e w1 ⟨rfl, hB1⟩
    rw [HI.out]
    go_wp2_with fail
    refine (specStartsEarly_any _ _ _ _ (hA.below hB1) hl HP.out).mono ?_
    rintro e w2 ⟨v, rfl, hS, hB2⟩
    rw [HSS.out] at hS
    obtain ⟨AQ, cq, rfl, hI2, -⟩ := hS.form
    have hb2 := next hB1 hB2
    go_wp2_with fail
    go_loopw [3, 5] (fun ev i wr => ∃ (k : Nat) (e : Int), k ≤ l.length ∧ i = .int .i64 k ∧ ev = .int .i64 e ∧ Hid (tasksEndL l = maxFrom e (List.zipWith (fun s x => s + x.span) (ss.drop k) (l.drop k))) ∧ IntsAt wr AQ ss ∧ Below w.heap.size w wr) (fun _ i _ => l.length - (intOf i).toNat)
    case atStart => exact ⟨0, 0, Nat.zero_le _, rfl, rfl, H0, hI2, hb2⟩
    case round =>
      clear hb2 hB1 hB2 hS hI2
      obtain ⟨k, e, hk, rfl, rfl, HG, hI2, hb⟩ := hrel
      have hsz := hb.size
      by_cases hlt : k < l.length
      · obtain ⟨b, off, B, d, rfl, hbl, hc1, hc2, -⟩ := (hA.below hb) k l[k] (List.getElem?_eq_getElem hlt)
        have hks : k < ss.length := by omega
        have hsp := (tasksOk_at HI.out (List.getElem?_eq_getElem hlt)).1
        have hso := HSO.out _ (List.getElem_mem hks)
        have HI3 := hide hI2
        obtain ⟨b3, off3, rfl, hbl3, hs1⟩ := hI2 k ss[k] (List.getElem?_eq_getElem hks)
        have HD : Hid (List.zipWith (fun s x => s + x.span) (ss.drop k) (l.drop k) = (ss[k] + l[k].span) :: List.zipWith (fun s x => s + x.span) (ss.drop (k + 1)) (l.drop (k + 1))) := hide (by
          rw [List.drop_eq_getElem_cons hlt, List.drop_eq_getElem_cons hks]
          rfl)
        generalize l[k] = x at *
        generalize ss[k] = s at *
        obtain ⟨y, hy⟩ : ∃ y, x.span = y := ⟨_, rfl⟩
        rw [hy] at hc1 hsp HD
        obtain ⟨hsp1, hsp2⟩ := hsp
        obtain ⟨hso1, hso2⟩ := hso
        have HG2 : Hid (tasksEndL l = maxFrom (if e < s + y then s + y else e) (List.zipWith (fun s x => s + x.span) (ss.drop (k + 1)) (l.drop (k + 1)))) := hide (by rw [HG.out, HD.out, maxFrom])
        have hz : (0 : Int) ≤ k := by omega
        have hz2 : (k : Int) < l.length := by omega
        have hz3 : (k : Int) < ss.length := by omega
        clear hy hI2
        go_wp2_with fail
        go_quiet (fail)
        go_wp2_with fail
        go_roundw
        case rel => exact ⟨k + 1, if e < s + y then s + y else e, hlt, by go_num, by first | rfl | go_num, HG2, HI3.out.below (below_drewN (Below.refl _ _) _), below_drewN hb _⟩
        case measure => simp [intOf]; omega
      · have H4 : Hid (tasksEndL l = e) := hide (by rw [HG.out, List.drop_of_length_le (show l.length ≤ k by omega), List.zipWith_nil_right, maxFrom])
        go_wp2_with fail
        go_ret
        exact ⟨by rw [H4.out]; rfl, hb⟩
end Go.Proofs.YtgagfaajilbmmaaDoor

namespace Go.Proofs.YtgagfaajilbmmaaDoor
open Go.RowKit

theorem upTo_eq (l : List Task) (out : List Int) : ∀ (xs : List Int) (t : Int), upTo l out t xs = maxFrom t (xs.map (fun a => out.getD a.toNat 0 + (l.getD a.toNat default).span))
  | [], _ => rfl
  | a :: r, t => by rw [upTo, List.map_cons, maxFrom, upTo_eq l out r]

theorem upTo_congr (l : List Task) (out out' : List Int) : ∀ (xs : List Int) (t : Int), (∀ a ∈ xs, out.getD a.toNat 0 = out'.getD a.toNat 0) → upTo l out t xs = upTo l out' t xs
  | [], _, _ => rfl
  | a :: r, t, h => by
    rw [upTo, upTo, h a (List.mem_cons_self ..)]
    exact upTo_congr l out out' r _ (fun b hb => h b (List.mem_cons_of_mem _ hb))

theorem earlyGo_prefix (l : List Task) : ∀ (r : List Task) (out : List Int), ∃ t, earlyGo l out r = out ++ t
  | [], out => ⟨[], by simp [earlyGo]⟩
  | x :: r, out => by
    obtain ⟨t, ht⟩ := earlyGo_prefix l r (out ++ [upTo l out 0 x.after])
    exact ⟨upTo l out 0 x.after :: t, by rw [earlyGo, ht]; simp⟩

theorem earlyGo_at (l : List Task) : ∀ (r : List Task) (out : List Int) (k : Nat) (x : Task), r[k]? = some x → (earlyGo l out r)[out.length + k]? = some (upTo l ((earlyGo l out r).take (out.length + k)) 0 x.after)
  | [], _, k, x, h => by simp at h
  | y :: r, out, 0, x, h => by
    obtain rfl : y = x := by simpa using h
    obtain ⟨t, ht⟩ := earlyGo_prefix l r (out ++ [upTo l out 0 y.after])
    rw [earlyGo, ht]
    simp
  | y :: r, out, k + 1, x, h => by
    have := earlyGo_at l r (out ++ [upTo l out 0 y.after]) k x (by simpa using h)
    rw [List.length_append, List.length_cons, List.length_nil, show out.length + (0 + 1) + k = out.length + (k + 1) from by omega] at this
    rw [earlyGo]
    exact this

theorem startsEarlyL_at {l : List Task} (h : tasksOk l = true) {k : Nat} {x : Task} (hx : l[k]? = some x) :
    (startsEarlyL l)[k]? = some (maxFrom 0 (x.after.map (fun a => (startsEarlyL l).getD a.toNat 0 + (l.getD a.toNat default).span))) := by
  have hr := (tasksOk_at h hx).2
  have e := earlyGo_at l l [] k x hx
  rw [List.length_nil, Nat.zero_add] at e
  have hs : startsEarlyL l = earlyGo l [] l := by unfold startsEarlyL; rw [if_pos h]
  rw [← upTo_eq, hs, e]
  congr 1
  refine upTo_congr l _ _ _ _ (fun a ha => ?_)
  have := hr a ha
  simp only [List.getD_eq_getElem?_getD, List.getElem?_take]
  rw [if_pos (by omega)]

/-- Block b is a step of sp minutes that begins at st. -/
structure StepQ (w : World) (b : Nat) (sp st : Int) : Prop where
  lt : b < w.heap.size
  c0 : w.cell? ⟨b, 0, none⟩ = some (.int .i64 sp)
  c1 : w.cell? ⟨b, 1, none⟩ = some (.int .i64 st)
  sp0 : 0 ≤ sp
  st0 : 0 ≤ st
  top : st + sp ≤ 1000000
theorem StepQ.below {w w' : World} {b : Nat} {sp st : Int} (h : StepQ w b sp st) (hB : Below w.heap.size w w') : StepQ w' b sp st :=
  ⟨Nat.lt_of_lt_of_le h.lt hB.size, (hB.cell h.lt).trans h.c0, (hB.cell h.lt).trans h.c1, h.sp0, h.st0, h.top⟩
theorem StepQ.far {w : World} {b g j : Nat} {u : Value} {sp st : Int} (h : StepQ w b sp st) (hne : b ≠ g) : StepQ (w.setCell ⟨g, j, none⟩ u) b sp st :=
  have hb := heap_other (w := w) (g := g) (j := j) (u := u) hne
  ⟨by simpa using h.lt, (World.cell?_of_block (a := ⟨b, 0, none⟩) hb).trans h.c0, (World.cell?_of_block (a := ⟨b, 1, none⟩) hb).trans h.c1, h.sp0, h.st0, h.top⟩

theorem infoStepP : (Tryd.prog.info? 95).map (fun i => (i.zero, i.size, i.bytes)) = some (some (.pointer none), 1, 8) := by kernel_rfl

theorem make_steps (n : Nat) (hn : n ≤ 1048576) (w : World) :
    (Instr.makeSlice 91 (.int .i64 (n : Int)) (.int .i64 (n : Int))).run Tryd.prog w = .ok (.slice (some ⟨w.heap.size, 0, none⟩) n n) (w.alloc (.cells (madeCells #[.pointer none] n) 95)) :=
  run_make_row' 91 95 (.pointer none) 8 Tryd.underlying91 infoStepP rfl .i64 .i64 n (by omega) (by omega) w

/-- Block g is the call's own row of n pointers, the first k of them to the steps of G. -/
def PtrRow (w : World) (g n k : Nat) (G : Nat → Nat) : Prop := w.rowIs g 95 n (fun j => if j < k then .pointer (some ⟨G j, 0, none⟩) else .pointer none)

theorem PtrRow.made (w : World) (n : Nat) (G : Nat → Nat) : PtrRow (w.alloc (.cells (madeCells #[.pointer none] n) 95)) w.heap.size n 0 G :=
  (World.rowIs_made w (.pointer none) n 95).congr (fun j hj => by rw [if_neg (by omega)])

theorem PtrRow.step {w : World} {g n k b : Nat} {G : Nat → Nat} (h : PtrRow w g n k G) : PtrRow (w.setCell ⟨g, k, none⟩ (.pointer (some ⟨b, 0, none⟩))) g n (k + 1) (fun i => if i = k then b else G i) :=
  (World.rowIs.set h k _).congr (fun j hj => by
    by_cases e : j = k
    · subst e
      simp
    · by_cases e2 : j < k
      · simp [e, e2, show j < k + 1 by omega]
      · simp [e, e2, show ¬ j < k + 1 by omega])
end Go.Proofs.YtgagfaajilbmmaaDoor
