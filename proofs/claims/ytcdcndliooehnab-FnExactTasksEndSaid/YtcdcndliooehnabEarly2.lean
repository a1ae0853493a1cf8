/- The list of times at which tasks begin as early as they can: its length and its bounds.
   Conditions: the tasks are valid. -/
import Derived.Test.YtcdcndliooehnabEarly
import Derived.Test.YtcdcndliooehnabLeast
namespace Go.Proofs.Ytcdcndliooehnab
open Go.RowKit

theorem getD_range {out : List Int} {B : Int} (hB : 0 ≤ B) (h : ∀ t ∈ out, 0 ≤ t ∧ t ≤ B) (i : Nat) : 0 ≤ out.getD i 0 ∧ out.getD i 0 ≤ B := by
  rw [List.getD_eq_getElem?_getD]
  cases e : out[i]? with
  | none => exact ⟨Int.le_refl _, hB⟩
  | some t => exact h t (List.mem_of_getElem? e)

theorem getD_span {l : List Task} (h : ∀ y ∈ l, 0 ≤ y.span ∧ y.span ≤ 30) (i : Nat) : 0 ≤ (l.getD i default).span ∧ (l.getD i default).span ≤ 30 := by
  rw [List.getD_eq_getElem?_getD]
  cases e : l[i]? with
  | none => exact ⟨Int.le_refl _, by show (0 : Int) ≤ 30; omega⟩
  | some t => exact h t (List.mem_of_getElem? e)

theorem upTo_ok {l : List Task} {out : List Int} {B : Int} (hB : 0 ≤ B) (hl : ∀ y ∈ l, 0 ≤ y.span ∧ y.span ≤ 30) (h : ∀ t ∈ out, 0 ≤ t ∧ t ≤ B) : ∀ (xs : List Int) (t : Int), 0 ≤ t → t ≤ B + 30 → 0 ≤ upTo l out t xs ∧ upTo l out t xs ≤ B + 30
  | [], t, h0, h1 => ⟨h0, h1⟩
  | a :: r, t, h0, h1 => by
    have g1 := getD_range hB h a.toNat
    have g2 := getD_span hl a.toNat
    rw [upTo]
    exact upTo_ok hB hl h r _ (by split <;> omega) (by split <;> omega)

theorem earlyGo_len (l : List Task) : ∀ (r : List Task) (out : List Int), (earlyGo l out r).length = out.length + r.length
  | [], out => by simp [earlyGo]
  | x :: r, out => by rw [earlyGo, earlyGo_len l r, List.length_append, List.length_cons, List.length_cons, List.length_nil]; omega

theorem earlyGo_ok {l : List Task} (hl : ∀ y ∈ l, 0 ≤ y.span ∧ y.span ≤ 30) : ∀ (r : List Task) (out : List Int), (∀ t ∈ out, 0 ≤ t ∧ t ≤ 30 * (out.length : Int)) → ∀ t ∈ earlyGo l out r, 0 ≤ t ∧ t ≤ 30 * ((out.length : Int) + r.length)
  | [], out, h, t, ht => by
    have := h t ht
    simp only [List.length_nil]
    omega
  | x :: r, out, h, t, ht => by
    have hu := upTo_ok (B := 30 * (out.length : Int)) (by omega) hl h x.after 0 (by omega) (by omega)
    have := earlyGo_ok hl r (out ++ [upTo l out 0 x.after]) (fun s hs => by
      rw [List.length_append, List.length_cons, List.length_nil]
      rcases List.mem_append.1 hs with e | e
      · have := h s e
        omega
      · obtain rfl : s = upTo l out 0 x.after := by simpa using e
        omega) t (by rw [earlyGo] at ht; exact ht)
    rw [List.length_append, List.length_cons, List.length_nil] at this
    rw [List.length_cons]
    omega

theorem tasks_span {l : List Task} (h : tasksOk l = true) : ∀ y ∈ l, 0 ≤ y.span ∧ y.span ≤ 30 := fun y hy => by
  obtain ⟨i, hi⟩ := List.mem_iff_getElem?.1 hy
  exact (tasksOk_at h hi).1

theorem startsEarlyL_len {l : List Task} (h : tasksOk l = true) : (startsEarlyL l).length = l.length := by
  unfold startsEarlyL
  rw [if_pos h, earlyGo_len]
  simp

theorem startsEarlyL_ok {l : List Task} (h : tasksOk l = true) : ∀ t ∈ startsEarlyL l, 0 ≤ t ∧ t ≤ 210 := fun t ht => by
  unfold startsEarlyL at ht
  rw [if_pos h] at ht
  have := earlyGo_ok (tasks_span h) l [] (fun s hs => by simp at hs) t ht
  have h7 := tasksOk_len h
  simp only [List.length_nil] at this
  omega

theorem startsEarlyL_le (l : List Task) : (startsEarlyL l).length ≤ 1048576 := by
  by_cases h : tasksOk l = true
  · rw [startsEarlyL_len h]
    have := tasksOk_len h
    omega
  · unfold startsEarlyL
    rw [if_neg h]
    simp

/-- When each task is done. -/
def donesL (l : List Task) : List Int := List.zipWith (fun s x => s + x.span) (startsEarlyL l) l
def tasksEndL (l : List Task) : Int := if tasksOk l = true then maxFrom 0 (donesL l) else -1

set_option maxHeartbeats 2000000 in
theorem specTasksEnd_any (A : Option Addr) (c : Nat) (l : List Task) (w : World) (hA : TasksAt w A l) (hl : l.length ≤ 1048576) (hp : ∀ x ∈ l, x.after.length ≤ 1048576) :
    Calls Try.prog 27 #[.slice A l.length c] w fun e w' => e = .returned (.int .i64 (tasksEndL l)) ∧ Below w.heap.size w w' := by
  have HP := hide hp
  clear hp
  cases hI : tasksOk l with
  | false =>
    have HI := hide hI
    have H3 : Hid (tasksEndL l = -1) := hide (by unfold tasksEndL; rw [hI]; rfl)
    clear hI
    go_enter Try.func27, Try.ntmps27
    go_wp2_with fail
    refine (specTasksValid_any _ _ _ _ hA hl HP.out).mono ?_
    rintro e w1 ⟨rfl, hB1⟩
    rw [HI.out]
    go_wp2_with fail
    go_ret
    exact ⟨by rw [H3.out]; rfl, hB1⟩
  | true =>
    have HI := hide hI
    obtain ⟨ss, HSS⟩ : ∃ ss, Hid (startsEarlyL l = ss) := ⟨_, hide rfl⟩
    have HSO : Hid (∀ t ∈ ss, 0 ≤ t ∧ t ≤ 210) := hide (by rw [← HSS.out]; exact startsEarlyL_ok hI)
    obtain ⟨hla, hlb⟩ := eqLe (show ss.length = l.length by rw [← HSS.out]; exact startsEarlyL_len hI)
    have H0 : Hid (tasksEndL l = maxFrom 0 (List.zipWith (fun s x => s + x.span) (ss.drop 0) (l.drop 0))) := hide (by unfold tasksEndL donesL; rw [if_pos hI, HSS.out]; rfl)
    clear hI
    go_enter Try.func27, Try.ntmps27
    go_wp2_with fail
    refine (specTasksValid_any _ _ _ _ hA hl HP.out).mono ?_
    rintro e w1 ⟨rfl, hB1⟩
    rw [HI.out]
    go_wp2_with fail
    refine (specStartsEarly_any _ _ _ _ (hA.below hB1) hl HP.out).mono ?_
    rintro e w2 ⟨v, rfl, hS, hB2⟩
    rw [HSS.out] at hS
    obtain ⟨AQ, cq, rfl, hI2, -⟩ := hS.form
    have hb2 := next hB1 hB2
    go_wp2_with fail
    go_loopw [3, 5] (fun ev i wr => ∃ (k : Nat) (e : Int), k ≤ l.length ∧ i = .int .i64 k ∧ ev = .int .i64 e ∧ Hid (tasksEndL l = maxFrom e (List.zipWith (fun s x => s + x.span) (ss.drop k) (l.drop k))) ∧ IntsAt wr AQ ss ∧ Below w.heap.size w wr) (fun _ i _ => l.length - (intOf i).toNat)
    case atStart => exact ⟨0, 0, Nat.zero_le _, rfl, rfl, H0, hI2, hb2⟩
    case round =>
      clear hb2 hB1 hB2 hS hI2
      obtain ⟨k, e, hk, rfl, rfl, HG, hI2, hb⟩ := hrel
      have hsz := hb.size
      by_cases hlt : k < l.length
      · obtain ⟨b, off, B, d, rfl, hbl, hc1, hc2, -⟩ := (hA.below hb) k l[k] (List.getElem?_eq_getElem hlt)
        have hks : k < ss.length := by omega
        have hsp := (tasksOk_at HI.out (List.getElem?_eq_getElem hlt)).1
        have hso := HSO.out _ (List.getElem_mem hks)
        have HI3 := hide hI2
        obtain ⟨b3, off3, rfl, hbl3, hs1⟩ := hI2 k ss[k] (List.getElem?_eq_getElem hks)
        have HD : Hid (List.zipWith (fun s x => s + x.span) (ss.drop k) (l.drop k) = (ss[k] + l[k].span) :: List.zipWith (fun s x => s + x.span) (ss.drop (k + 1)) (l.drop (k + 1))) := hide (by
          rw [List.drop_eq_getElem_cons hlt, List.drop_eq_getElem_cons hks]
          rfl)
        generalize l[k] = x at *
        generalize ss[k] = s at *
        obtain ⟨y, hy⟩ : ∃ y, x.span = y := ⟨_, rfl⟩
        rw [hy] at hc1 hsp HD
        obtain ⟨hsp1, hsp2⟩ := hsp
        obtain ⟨hso1, hso2⟩ := hso
        have HG2 : Hid (tasksEndL l = maxFrom (if e < s + y then s + y else e) (List.zipWith (fun s x => s + x.span) (ss.drop (k + 1)) (l.drop (k + 1)))) := hide (by rw [HG.out, HD.out, maxFrom])
        have hz : (0 : Int) ≤ k := by omega
        have hz2 : (k : Int) < l.length := by omega
        have hz3 : (k : Int) < ss.length := by omega
        clear hy hI2
        go_wp2_with fail
        go_quiet (fail)
        go_wp2_with fail
        go_roundw
        case rel => exact ⟨k + 1, if e < s + y then s + y else e, hlt, by go_num, by first | rfl | go_num, HG2, HI3.out.below (below_drewN (Below.refl _ _) _), below_drewN hb _⟩
        case measure => simp [intOf]; omega
      · have H4 : Hid (tasksEndL l = e) := hide (by rw [HG.out, List.drop_of_length_le (show l.length ≤ k by omega), List.zipWith_nil_right, maxFrom])
        go_wp2_with fail
        go_ret
        exact ⟨by rw [H4.out]; rfl, hb⟩
end Go.Proofs.Ytcdcndliooehnab
