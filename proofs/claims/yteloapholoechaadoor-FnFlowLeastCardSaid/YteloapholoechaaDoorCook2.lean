/- Burners: BurnEnd and BurnList; contracts of the program and of the reference model.
   Conditions: lists have at most 1048576 elements. -/
import Derived.Test.YteloapholoechaaDoorCook1
import Derived.Test.YteloapholoechaaDoorTab
import Derived.Test.YteloapholoechaaDoorSlKit
namespace Go.Proofs.YteloapholoechaaDoor
open Go.RowKit

def loadGo (j : Int) : List Int → List Int → Int
  | o :: r, s :: t => (if o = j then s else 0) + loadGo j r t
  | _, _ => 0
def burnEndL (spans : List Int) (b : Int) (on : List Int) : Int :=
  if burnOkL spans b on = true then maxFrom 0 (tab b.toNat (fun j => loadGo j on spans)) else -1

theorem burnOkL_parts {spans on : List Int} {b : Int} (h : burnOkL spans b on = true) : spansOk spans = true ∧ on.length = spans.length ∧ rangeOk (b - 1) on = true ∧ ∃ n : Nat, b = n ∧ 1 ≤ n ∧ n ≤ 3 := by
  unfold burnOkL at h
  simp only [Bool.and_eq_true, decide_eq_true_eq] at h
  obtain ⟨h1, h2⟩ := burnFit_parts h.1
  exact ⟨h1, by omega, h.2.2, h2⟩

theorem loadGo_range {j : Int} : ∀ {on spans : List Int}, (∀ s ∈ spans, 0 ≤ s ∧ s ≤ 30) → 0 ≤ loadGo j on spans ∧ loadGo j on spans ≤ 30 * spans.length
  | [], spans, _ => by unfold loadGo; omega
  | o :: r, [], _ => by unfold loadGo; simp
  | o :: r, s :: t, h => by
    have ih := loadGo_range (j := j) (on := r) (spans := t) (fun x hx => h x (by simp [hx]))
    have hs := h s (by simp)
    unfold loadGo
    simp only [List.length_cons, Int.natCast_add, Int.natCast_one]
    split <;> omega

set_option maxHeartbeats 400000 in
theorem greatest_any (A : Option Addr) (c : Nat) (xs : List Int) (w : World) (hA : IntsAt w A xs) (hl : xs.length ≤ 1048576) :
    Calls Tryd.prog 60 #[.slice A xs.length c] w fun e w' => e = .returned (.int .i64 (maxFrom 0 xs)) ∧ w = w' := by
  go_enter Tryd.func60, Tryd.ntmps60
  go_wp2_with fail
  go_loopw [3, 8] (fun sv i wr => ∃ (k : Nat) (s : Int), k ≤ xs.length ∧ i = .int .i64 k ∧ sv = .int .i64 s ∧ Hid (maxFrom 0 xs = maxFrom s (xs.drop k)) ∧ w = wr) (fun _ i _ => xs.length - (intOf i).toNat)
  case atStart => exact ⟨0, 0, Nat.zero_le _, rfl, rfl, hide rfl, rfl⟩
  case round =>
    obtain ⟨k, s, hk, rfl, rfl, HG, rfl⟩ := hrel
    by_cases hlt : k < xs.length
    · obtain ⟨b, off, rfl, hbl, hc1⟩ := hA k xs[k] (List.getElem?_eq_getElem hlt)
      have HD : Hid (xs.drop k = xs[k] :: xs.drop (k + 1)) := hide (List.drop_eq_getElem_cons hlt)
      generalize xs[k] = p at *
      have H3 : Hid (maxFrom 0 xs = maxFrom (if s < p then p else s) (xs.drop (k + 1))) := hide (by rw [HG.out, HD.out, maxFrom])
      have hz : (0 : Int) ≤ k := by omega
      have hz2 : (k : Int) < xs.length := by omega
      go_wp2_with fail
      go_roundw
      case rel => exact ⟨k + 1, _, hlt, by go_num, rfl, H3, trivial⟩
      case measure => simp [intOf]; omega
    · have H3 : Hid (maxFrom 0 xs = s) := hide (by rw [HG.out, List.drop_of_length_le (by omega), maxFrom])
      go_wp2_with fail
      go_ret
      exact ⟨by rw [H3.out]; rfl, rfl⟩

theorem zeros_tab (w : World) {lo : Nat} (n : Nat) (hlo : lo ≤ w.heap.size) (hn : n ≤ 1048576) : IntSl (w.alloc (.cells (madeCells #[.int .i64 0] n) 3)) lo (.slice (some ⟨w.heap.size, 0, none⟩) n n) (tab n (fun _ => 0)) := by
  have h : OwnInts (w.alloc (.cells (madeCells #[.int .i64 0] n) 3)) w.heap.size (tab n (fun _ => 0)) := by
    unfold OwnInts
    rw [tab_len]
    exact (World.rowIs_made _ _ _ _).congr (fun i hi => by simp [tab, hi])
  have := h.sl hlo (by rw [tab_len]; exact hn)
  rw [tab_len] at this
  exact this

theorem tab_drop {n k : Nat} (f : Nat → Int) (h : k < n) : (tab n f).drop k = f k :: (tab n f).drop (k + 1) := by
  have hk : k < (tab n f).length := by rw [tab_len]; exact h
  rw [List.drop_eq_getElem_cons hk]
  congr 1
  have := tab_at (f := f) h
  rw [List.getElem?_eq_getElem hk] at this
  injection this

set_option maxRecDepth 100000 in
set_option maxHeartbeats 1000000 in
theorem implBurnEnd_any (A B : Option Addr) (c d : Nat) (xs : List Int) (b : Int) (on : List Int) (w : World) (hA : IntsAt w A xs) (hl : xs.length ≤ 1048576) (hB : IntsAt w B on) (hm : on.length ≤ 1048576) :
    Calls Tryd.prog 28 #[.slice A xs.length c, .int .i64 b, .slice B on.length d] w fun e w' => e = .returned (.int .i64 (burnEndL xs b on)) ∧ Below w.heap.size w w' := by
  cases hI : burnOkL xs b on with
  | false =>
    have HI := hide hI
    have H3 : Hid (burnEndL xs b on = -1) := hide (by unfold burnEndL; rw [hI]; rfl)
    clear hI
    go_enter Tryd.func28, Tryd.ntmps28
    go_wp2_with fail
    refine (implBurnOk_any _ _ _ _ _ _ _ _ hA hl hB hm).mono ?_
    rintro e w1 ⟨rfl, hB1⟩
    rw [HI.out]
    go_wp2_with fail
    go_ret
    exact ⟨by rw [H3.out]; rfl, hB1⟩
  | true =>
    have HI := hide hI
    obtain ⟨hsp, hol, hro, n, rfl, hn1, hn3⟩ := burnOkL_parts hI
    have h6 := spansOk_len hsp
    have HSP := hide hsp
    have HRO := hide hro
    have HOL := hide hol
    have HR : Hid (burnEndL xs n on = maxFrom 0 (tab n (fun j => loadGo j on xs))) := hide (by unfold burnEndL; rw [hI]; simp)
    have hmk := make_ints n (by omega)
    clear hI hsp hro hol
    go_enter Tryd.func28, Tryd.ntmps28
    go_wp2_with fail
    refine (implBurnOk_any _ _ _ _ _ _ _ _ hA hl hB hm).mono ?_
    rintro e w1 ⟨rfl, hB1⟩
    rw [HI.out]
    have hsz1 := hB1.size
    have hA1 := hA.below hB1
    have hBB1 := hB.below hB1
    have HZ := hide (zeros_tab w1 (lo := w.heap.size) n hsz1 (by omega))
    go_wp2_with fail
    clear hmk
    go_loopw [19] (fun i wr => ∃ (k : Nat) (f : Nat → Int), k ≤ on.length ∧ i = .int .i64 k ∧ Hid (∀ j, j < n → loadGo j on xs = f j + loadGo j (on.drop k) (xs.drop k) ∧ 0 ≤ f j ∧ f j ≤ 30 * k) ∧ IntSl wr w.heap.size (.slice (some ⟨w1.heap.size, 0, none⟩) n n) (tab n f) ∧ Below w.heap.size w wr) (fun i _ => on.length - (intOf i).toNat)
    case atStart => exact ⟨0, fun _ => 0, Nat.zero_le _, rfl, hide (fun j hj => by simp), HZ.out, by go_grown⟩
    case round =>
      clear HZ hB1
      obtain ⟨k, f, hk, rfl, HF, hS, hb⟩ := hrel
      have hsz := hb.size
      by_cases hlt : k < on.length
      · have hlx : k < xs.length := by rw [← HOL.out]; exact hlt
        obtain ⟨b1, off1, rfl, hbl1, hc1⟩ := (hB.below hb) k on[k] (List.getElem?_eq_getElem hlt)
        obtain ⟨b2, off2, rfl, hbl2, hc2⟩ := (hA.below hb) k xs[k] (List.getElem?_eq_getElem hlx)
        have HD1 : Hid (on.drop k = on[k] :: on.drop (k + 1)) := hide (List.drop_eq_getElem_cons hlt)
        have HD2 : Hid (xs.drop k = xs[k] :: xs.drop (k + 1)) := hide (List.drop_eq_getElem_cons hlx)
        have ho := rangeOk_at HRO.out (List.getElem?_eq_getElem hlt)
        have hs := spansOk_at HSP.out (List.getElem?_eq_getElem hlx)
        generalize on[k] = o at *
        generalize xs[k] = s at *
        obtain ⟨q, rfl⟩ : ∃ q : Nat, o = q := ⟨o.toNat, by omega⟩
        have hqn : q < n := by omega
        have hcell := hS.cellAt (tab_at (f := f) hqn)
        have hfz := hS.frozenAt q
        have hfq := (HF.out q hqn).2
        obtain ⟨v, hv⟩ : ∃ v, f q = v := ⟨_, rfl⟩
        rw [hv] at hcell hfq
        obtain ⟨hs0, hs1⟩ := hs
        have hw1 : IntKind.i64.wrap (v + s) = v + s := IntWalk.i64_in _ (by omega)
        have hgl := (World.ownsRow.lt hS _ rfl).2
        have HN : Hid (IntSl (wr.setCell ⟨w1.heap.size, q, none⟩ (.int .i64 (v + s))) w.heap.size (.slice (some ⟨w1.heap.size, 0, none⟩) n n) (tab n (fun j => if j = q then v + s else f j))) := hide (by
          have := IntSl.store hS q (v + s)
          rw [tab_set] at this
          exact this)
        have HF2 : Hid (∀ j, j < n → loadGo j on xs = (if j = q then v + s else f j) + loadGo j (on.drop (k + 1)) (xs.drop (k + 1)) ∧ 0 ≤ (if j = q then v + s else f j) ∧ (if j = q then v + s else f j) ≤ 30 * ((k + 1 : Nat) : Int)) := hide (fun j hj => by
          have := HF.out j hj
          rw [HD1.out, HD2.out, loadGo] at this
          by_cases e : j = q
          · subst e
            rw [if_pos rfl] at this
            rw [if_pos rfl]
            omega
          · rw [if_neg (by omega)] at this
            rw [if_neg e]
            omega)
        have hz : (0 : Int) ≤ k := by omega
        have hz2 : (k : Int) < on.length := by omega
        have hz3 : (k : Int) < xs.length := by omega
        have hq0 : (0 : Int) ≤ q := by omega
        have hq1 : (q : Int) < n := by omega
        have HB5 := hide (hb.grown (IntSl.grownSet hS q (v + s)) hsz (fun k hk => by injection hk with hk; omega))
        clear ho hS
        go_wp2_with fail
        refine still_tail_drew 10 (by kernel_rfl) (by kernel_rfl) ?_
        simp only [List.take_succ_cons, List.take_zero, List.drop_succ_cons, List.drop_zero]
        repeat still_step
        refine wpStill_nil ?_
        go_wp2_with fail
        go_roundw
        case rel => exact ⟨k + 1, _, hlt, by go_num, HF2, IntSl.drew HN.out, HB5.out.drew⟩
        case measure => simp [intOf]; omega
      · have HE : Hid (tab n (fun j => loadGo j on xs) = tab n f) := hide (tab_congr (fun j hj => by
          have := (HF.out j hj).1
          rw [List.drop_of_length_le (by omega), List.drop_of_length_le (by rw [← HOL.out]; omega)] at this
          simpa [loadGo] using this))
        have H3 : Hid (burnEndL xs n on = maxFrom 0 (tab n f)) := hide (by rw [HR.out, HE.out])
        have hG := greatest_any (some ⟨w1.heap.size, 0, none⟩) n (tab n f) wr hS.ints (by rw [tab_len]; omega)
        rw [tab_len] at hG
        clear hS
        go_wp2_with fail
        refine hG.mono ?_
        rintro e w5 ⟨rfl, rfl⟩
        go_wp2_with fail
        go_ret
        exact ⟨by rw [H3.out]; rfl, hb⟩

set_option maxRecDepth 100000 in
set_option maxHeartbeats 1000000 in
theorem specBurnEnd_any (A B : Option Addr) (c d : Nat) (xs : List Int) (b : Int) (on : List Int) (w : World) (hA : IntsAt w A xs) (hl : xs.length ≤ 1048576) (hB : IntsAt w B on) (hm : on.length ≤ 1048576) :
    Calls Tryd.prog 29 #[.slice A xs.length c, .int .i64 b, .slice B on.length d] w fun e w' => e = .returned (.int .i64 (burnEndL xs b on)) ∧ Below w.heap.size w w' := by
  cases hI : burnOkL xs b on with
  | false =>
    have HI := hide hI
    have H3 : Hid (burnEndL xs b on = -1) := hide (by unfold burnEndL; rw [hI]; rfl)
    clear hI
    go_enter Tryd.func29, Tryd.ntmps29
    go_wp2_with fail
    refine (specBurnOk_any _ _ _ _ _ _ _ _ hA hl hB hm).mono ?_
    rintro e w1 ⟨rfl, hB1⟩
    rw [HI.out]
    go_wp2_with fail
    go_ret
    exact ⟨by rw [H3.out]; rfl, hB1⟩
  | true =>
    have HI := hide hI
    obtain ⟨hsp, hol, hro, n, rfl, hn1, hn3⟩ := burnOkL_parts hI
    have h6 := spansOk_len hsp
    have HSP := hide hsp
    have HRO := hide hro
    have HOL := hide hol
    have HR : Hid (burnEndL xs n on = maxFrom 0 (tab n (fun j => loadGo j on xs))) := hide (by unfold burnEndL; rw [hI]; simp)
    clear hI hsp hro hol
    go_enter Tryd.func29, Tryd.ntmps29
    go_wp2_with fail
    refine (specBurnOk_any _ _ _ _ _ _ _ _ hA hl hB hm).mono ?_
    rintro e w1 ⟨rfl, hB1⟩
    rw [HI.out]
    have hsz1 := hB1.size
    have HA1 := hide (hA.below hB1)
    have HBB1 := hide (hB.below hB1)
    clear hA hB
    go_wp2_with fail
    go_loopw [7, 8] (fun ev i wr => ∃ (k : Nat) (e : Int), k ≤ n ∧ i = .int .i64 k ∧ ev = .int .i64 e ∧ Hid (maxFrom 0 (tab n (fun j => loadGo j on xs)) = maxFrom e ((tab n (fun j => loadGo j on xs)).drop k)) ∧ wr = w1) (fun _ i _ => n - (intOf i).toNat)
    case atStart => exact ⟨0, 0, Nat.zero_le _, rfl, rfl, hide rfl, rfl⟩
    case round =>
      obtain ⟨k, e, hk, rfl, rfl, HG, rfl⟩ := hrel
      by_cases hlt : k < n
      · have HD : Hid ((tab n (fun j => loadGo j on xs)).drop k = loadGo k on xs :: (tab n (fun j => loadGo j on xs)).drop (k + 1)) := hide (tab_drop (f := fun j => loadGo (j : Int) on xs) hlt)
        have hz : (0 : Int) ≤ k := by omega
        have hz2 : (k : Int) < n := by omega
        go_wp2_with fail
        go_loopw [9, 10] (fun sv i w2 => ∃ (m : Nat) (s : Int), m ≤ on.length ∧ i = .int .i64 m ∧ sv = .int .i64 s ∧ 0 ≤ s ∧ s ≤ 30 * m ∧ Hid (loadGo k on xs = s + loadGo k (on.drop m) (xs.drop m)) ∧ w2 = wr) (fun _ i _ => on.length - (intOf i).toNat)
        case atStart => exact ⟨0, 0, Nat.zero_le _, rfl, rfl, by omega, by omega, hide (by simp), rfl⟩
        case round =>
          obtain ⟨m, s, hmk, rfl, rfl, hs0, hs1, HS, rfl⟩ := hrel
          by_cases hmt : m < on.length
          · have hlx : m < xs.length := by rw [← HOL.out]; exact hmt
            obtain ⟨b1, off1, rfl, hbl1, hc1⟩ := HBB1.out m on[m] (List.getElem?_eq_getElem hmt)
            obtain ⟨b2, off2, rfl, hbl2, hc2⟩ := HA1.out m xs[m] (List.getElem?_eq_getElem hlx)
            have HD1 : Hid (on.drop m = on[m] :: on.drop (m + 1)) := hide (List.drop_eq_getElem_cons hmt)
            have HD2 : Hid (xs.drop m = xs[m] :: xs.drop (m + 1)) := hide (List.drop_eq_getElem_cons hlx)
            have hv := spansOk_at HSP.out (List.getElem?_eq_getElem hlx)
            generalize on[m] = o at *
            generalize xs[m] = v at *
            obtain ⟨hv0, hv1⟩ := hv
            have hz3 : (0 : Int) ≤ m := by omega
            have hz4 : (m : Int) < on.length := by omega
            have hz5 : (m : Int) < xs.length := by omega
            cases ho : (o == (k : Int)) with
            | true =>
              have hoe : o = k := by simpa using ho
              have HS2 : Hid (loadGo k on xs = (s + v) + loadGo k (on.drop (m + 1)) (xs.drop (m + 1))) := hide (by rw [HS.out, HD1.out, HD2.out, loadGo, if_pos hoe]; omega)
              clear hoe
              go_wp2_with fail
              go_roundw
              case rel => exact ⟨m + 1, s + v, hmt, by go_num, by go_num, by omega, by omega, HS2, trivial⟩
              case measure => simp [intOf]; omega
            | false =>
              have hoe : ¬ o = k := by simpa using ho
              have HS2 : Hid (loadGo k on xs = s + loadGo k (on.drop (m + 1)) (xs.drop (m + 1))) := hide (by rw [HS.out, HD1.out, HD2.out, loadGo, if_neg hoe]; omega)
              clear hoe
              go_wp2_with fail
              go_roundw
              case rel => exact ⟨m + 1, s, hmt, by go_num, rfl, by omega, by omega, HS2, trivial⟩
              case measure => simp [intOf]; omega
          · have HS2 : Hid (loadGo k on xs = s) := hide (by
              rw [HS.out, List.drop_of_length_le (by omega), List.drop_of_length_le (by rw [← HOL.out]; omega)]
              simp [loadGo])
            have HG2 : Hid (maxFrom 0 (tab n (fun j => loadGo j on xs)) = maxFrom (if e < s then s else e) ((tab n (fun j => loadGo j on xs)).drop (k + 1))) := hide (by rw [HG.out, HD.out, maxFrom, HS2.out])
            go_wp2_with fail
            go_roundw
            case rel => exact ⟨k + 1, _, hlt, by go_num, rfl, HG2, trivial⟩
            case measure => simp [intOf]; omega
      · have H3 : Hid (burnEndL xs n on = e) := hide (by rw [HR.out, HG.out, List.drop_of_length_le (by rw [tab_len]; omega), maxFrom])
        go_wp2_with fail
        go_ret
        exact ⟨by rw [H3.out]; rfl, hB1⟩
end Go.Proofs.YteloapholoechaaDoor
