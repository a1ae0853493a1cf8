/- Lists of indices, each once: mathematics, and contracts of the helper that looks a number up.
   Conditions: lists have at most 1048576 elements. -/
import Derived.Test.YtmepnilnlpoodaaDoorTab
import Derived.Test.YtmepnilnlpoodaaDoorTables
namespace Go.Proofs.YtmepnilnlpoodaaDoor
open Go.RowKit

def hasI (xs : List Int) (x : Int) : Bool := xs.any (fun y => y == x)
def freshGo (seen : List Int) : List Int → Bool
  | [] => true
  | x :: r => !(hasI seen x) && freshGo (seen ++ [x]) r
def orderOkL (order : List Int) (many : Int) : Bool := (decide ((order.length : Int) = many) && rangeOk (many - 1) order) && freshGo [] order

theorem hasI_iff {xs : List Int} {x : Int} : hasI xs x = true ↔ x ∈ xs := by
  unfold hasI
  rw [List.any_eq_true]
  constructor
  · rintro ⟨y, hy, e⟩
    have : y = x := by simpa using e
    exact this ▸ hy
  · exact fun h => ⟨x, h, by simp⟩
theorem hasI_false {xs : List Int} {x : Int} : hasI xs x = false ↔ x ∉ xs := by
  rw [← hasI_iff]
  simp

theorem freshGo_nodup : ∀ {seen xs : List Int}, seen.Nodup → freshGo seen xs = true → (seen ++ xs).Nodup
  | seen, [], h, _ => by simpa using h
  | seen, x :: r, h, hf => by
    unfold freshGo at hf
    simp only [Bool.and_eq_true, Bool.not_eq_true'] at hf
    have hx := hasI_false.1 hf.1
    have hs : (seen ++ [x]).Nodup := by
      rw [List.nodup_append]
      exact ⟨h, by simp, fun a ha b hb e => by
        simp only [List.mem_cons, List.not_mem_nil, or_false] at hb
        subst hb e
        exact hx ha⟩
    have := freshGo_nodup hs hf.2
    simpa using this

theorem orderOkL_parts {order : List Int} {many : Int} (h : orderOkL order many = true) : ∃ n : Nat, many = n ∧ order.length = n ∧ rangeOk ((n : Int) - 1) order = true ∧ order.Nodup := by
  unfold orderOkL at h
  simp only [Bool.and_eq_true, decide_eq_true_eq] at h
  refine ⟨order.length, by omega, rfl, ?_, ?_⟩
  · rw [h.1.1]
    exact h.1.2
  · have := freshGo_nodup (seen := []) (by simp) h.2
    simpa using this

/-- Distinct numbers from 0 on and below n are at most n; if they are n, each sum over them is the sum over all. -/
theorem nodup_len : ∀ (n : Nat) (l : List Int), l.Nodup → (∀ x ∈ l, 0 ≤ x ∧ x < n) → l.length ≤ n
  | 0, l, _, h => by
    cases l with
    | nil => simp
    | cons x r => have := h x (by simp); omega
  | n + 1, l, hn, h => by
    by_cases hm : (n : Int) ∈ l
    · have ih := nodup_len n (l.erase n) (hn.erase _) (fun x hx => by
        have a := (hn.mem_erase_iff).1 hx
        have b := h x a.2
        omega)
      rw [List.length_erase_of_mem hm] at ih
      omega
    · have ih := nodup_len n l hn (fun x hx => by
        have b := h x hx
        have : x ≠ n := fun e => hm (e ▸ hx)
        omega)
      omega
theorem sumL_app (a b : List Int) : sumL (a ++ b) = sumL a + sumL b := by
  induction a with
  | nil => simp [sumL]
  | cons x r ih => simp only [List.cons_append, sumL, ih]; omega
theorem sumL_erase {f : Int → Int} {y : Int} : ∀ {l : List Int}, y ∈ l → sumL (l.map f) = f y + sumL ((l.erase y).map f)
  | [], h => by simp at h
  | x :: r, h => by
    by_cases e : x = y
    · subst e
      simp [sumL]
    · have hr : y ∈ r := by
        rcases List.mem_cons.1 h with h | h
        · exact absurd h.symm e
        · exact h
      rw [List.erase_cons_tail (by simpa using e)]
      simp only [List.map_cons, sumL, sumL_erase (f := f) hr]
      omega
theorem sum_all {f : Int → Int} : ∀ (n : Nat) (l : List Int), l.Nodup → (∀ x ∈ l, 0 ≤ x ∧ x < n) → l.length = n → sumL (l.map f) = sumL (tab n (fun i => f i))
  | 0, l, _, _, hl => by
    have : l = [] := List.eq_nil_of_length_eq_zero hl
    subst this
    simp [tab, sumL]
  | n + 1, l, hn, h, hl => by
    have hm : (n : Int) ∈ l := by
      refine Classical.byContradiction fun hm => ?_
      have := nodup_len n l hn (fun x hx => by
        have b := h x hx
        have : x ≠ n := fun e => hm (e ▸ hx)
        omega)
      omega
    have ih := sum_all (f := f) n (l.erase n) (hn.erase _) (fun x hx => by
        have a := (hn.mem_erase_iff).1 hx
        have b := h x a.2
        omega) (by rw [List.length_erase_of_mem hm]; omega)
    rw [sumL_erase hm, ih, ← tab_snoc, sumL_app]
    simp [sumL]
    omega

set_option maxHeartbeats 400000 in
theorem l1Has_any (A : Option Addr) (c : Nat) (xs : List Int) (x : Int) (w : World) (hA : IntsAt w A xs) (hl : xs.length ≤ 1048576) :
    Calls Tryd.prog 68 #[.slice A xs.length c, .int .i64 x] w fun e w' => e = .returned (.bool (hasI xs x)) ∧ w' = w := by
  go_enter Tryd.func68, Tryd.ntmps68
  go_wp2_with fail
  go_loopw [5] (fun i wr => ∃ (k : Nat), k ≤ xs.length ∧ i = .int .i64 k ∧ Hid (hasI xs x = hasI (xs.drop k) x) ∧ wr = w) (fun i _ => xs.length - (intOf i).toNat)
  case atStart => exact ⟨0, Nat.zero_le _, rfl, hide rfl, rfl⟩
  case round =>
    obtain ⟨k, hk, rfl, HG, rfl⟩ := hrel
    by_cases hlt : k < xs.length
    · obtain ⟨b, off, rfl, hbl, hc1⟩ := hA k xs[k] (List.getElem?_eq_getElem hlt)
      have HD : Hid (xs.drop k = xs[k] :: xs.drop (k + 1)) := hide (List.drop_eq_getElem_cons hlt)
      generalize xs[k] = p at *
      have hz : (0 : Int) ≤ k := by omega
      have hz2 : (k : Int) < xs.length := by omega
      cases hp : (p == x) with
      | true =>
        have H3 : Hid (hasI xs x = true) := hide (by rw [HG.out, HD.out]; unfold hasI; rw [List.any_cons, hp]; rfl)
        go_wp2_with fail
        go_ret
        exact ⟨by rw [H3.out]; rfl, rfl⟩
      | false =>
        have H3 : Hid (hasI xs x = hasI (xs.drop (k + 1)) x) := hide (by rw [HG.out, HD.out]; unfold hasI; rw [List.any_cons, hp]; rfl)
        go_wp2_with fail
        go_roundw
        case rel => exact ⟨k + 1, hlt, by go_num, H3, trivial⟩
        case measure => simp [intOf]; omega
    · have H3 : Hid (hasI xs x = false) := hide (by rw [HG.out, List.drop_of_length_le (by omega)]; rfl)
      go_wp2_with fail
      go_ret
      exact ⟨by rw [H3.out]; rfl, rfl⟩
end Go.Proofs.YtmepnilnlpoodaaDoor
