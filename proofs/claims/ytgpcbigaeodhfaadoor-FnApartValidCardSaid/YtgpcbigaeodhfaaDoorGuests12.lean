/- Guests12: contracts of SeatsLeast, of the program and of the reference model.
   Conditions: lists have at most 1048576 elements. -/
import Derived.Test.YtgpcbigaeodhfaaDoorZ4
namespace Go.Proofs.YtgpcbigaeodhfaaDoor
open Go.RowKit Go.ChangeShapes Go.WideShapes Go.ChangeAt Go.Deep

theorem sl_no {g : Int} {q : List Int} (h : quarOk g q = false) : seatsLeastL g q = -1 := by unfold seatsLeastL; rw [h]; rfl
theorem orI_comm (a b : Int) : orI a b = orI b a := by unfold orI; rw [Nat.or_comm]
/-- A part of a set, and what is left of it. -/
theorem within_iff (p s : Int) : (dropI p s == 0) = (meetI p s == p) := by
  rw [Bool.eq_iff_iff, beq_iff_eq, beq_iff_eq]
  unfold dropI meetI
  omega
theorem rest_of {p s : Int} (h : (meetI p s == p) = true) : dropI s p = s - p := by
  rw [beq_iff_eq] at h
  unfold meetI at h
  unfold dropI
  rw [orI_comm]
  omega

theorem l1Meet64_w (a b : Int) (w : World) (h0 : 0 ≤ a) (h1 : a < 64) (h2 : 0 ≤ b) (h3 : b < 64) :
    Calls Tryd.prog 82 #[.int .i64 a, .int .i64 b] w fun e w' => e = .returned (.int .i64 (meetI a b)) ∧ w = w' := (l1Meet64_any a b w h0 h1 h2 h3).mono fun _ _ h => ⟨h.1, h.2.symm⟩

theorem isWithin_any (p s : Int) (w : World) (p0 : 0 ≤ p) (p1 : p < 64) (s0 : 0 ≤ s) (s1 : s < 64) :
    Calls Tryd.prog 96 #[.int .i64 p, .int .i64 s] w fun e w' => e = .returned (.bool (meetI p s == p)) ∧ w = w' := by
  have HE := hide (within_iff p s)
  have hw : bits .andNot .i64 p s = dropI p s := andNot_all' p0 p1 s0 s1
  generalize dropI p s = d at *
  go_enter Tryd.func96, Tryd.ntmps96
  go_wp2_with fail
  go_ret
  exact ⟨by rw [← HE.out]; rfl, rfl⟩

set_option maxHeartbeats 800000 in
theorem l6Free_any (A : Option Addr) (c : Nat) (ms : List Int) (s : Int) (w : World) (hA : IntsAt w A ms) (hl : ms.length ≤ 6) (HX : Hid (∀ x ∈ ms, 0 ≤ x ∧ x < 64)) (h0 : 0 ≤ s) (h1 : s < 64) :
    Calls Tryd.prog 83 #[.slice A ms.length c, .int .i64 s] w fun e w' => e = .returned (.bool (apartS s ms)) ∧ w = w' := by
  go_enter Tryd.func83, Tryd.ntmps83
  go_wp2_with fail
  go_loopw [5] (fun i wr => ∃ (k : Nat), k ≤ ms.length ∧ i = .int .i64 k ∧ Hid (apartS s ms = apGo s k (ms.drop k)) ∧ w = wr) (fun i _ => ms.length - (intOf i).toNat)
  case atStart => exact ⟨0, Nat.zero_le _, rfl, hide rfl, rfl⟩
  case round =>
    obtain ⟨k, hk, rfl, HG, rfl⟩ := hrel
    by_cases hlt : k < ms.length
    · obtain ⟨b, off, rfl, hbl, hc1⟩ := hA k ms[k] (List.getElem?_eq_getElem hlt)
      have HE : Hid (ms.drop k = ms[k] :: ms.drop (k + 1)) := hide (List.drop_eq_getElem_cons hlt)
      have hx := HX.out ms[k] (List.getElem_mem hlt)
      generalize ms[k] = p at *
      have hz : (0 : Int) ≤ k := by omega
      have hz2 : (k : Int) < ms.length := by omega
      have hd := div_range s k h0 h1
      have hmr := (meet_range hx.1 hx.2 h0 h1).1
      have HC := hide (fun W => l1Meet64_any p s W hx.1 hx.2 h0 h1)
      clear hx
      cases hh : hasB s k with
      | false =>
        have hf : (s / 2 ^ k % 2 == 1) = false := hh
        have H3 : Hid (apartS s ms = apGo s (k + 1) (ms.drop (k + 1))) := hide (by rw [HG.out, HE.out, apGo, hh]; rfl)
        clear hh
        generalize meetI p s = z at *
        go_wp2_with fail
        go_roundw
        case rel => exact ⟨k + 1, hlt, by go_num, H3, trivial⟩
        case measure => simp [intOf]; omega
      | true =>
        have hf : (s / 2 ^ k % 2 == 1) = true := hh
        cases hm : (meetI p s == 0) with
        | false =>
          have H3 : Hid (apartS s ms = false) := hide (by rw [HG.out, HE.out, apGo, hh, hm]; rfl)
          clear hh
          generalize meetI p s = z at *
          have hz0 : 0 < z := by rw [beq_eq_false_iff_ne] at hm; omega
          clear hm
          go_wp2_with fail
          refine (HC.out _).mono ?_
          rintro e w3 ⟨rfl, rfl⟩
          go_wp2_with fail
          go_ret
          exact ⟨by rw [H3.out]; rfl, rfl⟩
        | true =>
          have H3 : Hid (apartS s ms = apGo s (k + 1) (ms.drop (k + 1))) := hide (by rw [HG.out, HE.out, apGo, hm]; simp)
          clear hh
          generalize meetI p s = z at *
          obtain rfl : z = 0 := by simpa using hm
          clear hm
          go_wp2_with fail
          refine (HC.out _).mono ?_
          rintro e w3 ⟨rfl, rfl⟩
          go_wp2_with fail
          go_roundw
          case rel => exact ⟨k + 1, hlt, by go_num, H3, trivial⟩
          case measure => simp [intOf]; omega
    · have HE : Hid (apartS s ms = true) := hide (by rw [HG.out, List.drop_of_length_le (by omega)]; rfl)
      go_wp2_with fail
      go_ret
      exact ⟨by rw [HE.out]; rfl, rfl⟩

theorem getD_low {T : List Int} (hT : ∀ x ∈ T, 0 ≤ x ∧ x ≤ 64) (i : Nat) : 0 ≤ T.getD i 0 := by
  by_cases e : i < T.length
  · rw [show T.getD i 0 = T[i] from by simp [e]]
    exact (hT _ (List.getElem_mem e)).1
  · rw [show T.getD i 0 = 0 from by simp [e]]
    omega
theorem partGo_range (q T : List Int) (s init : Int) (hT : ∀ x ∈ T, 0 ≤ x ∧ x ≤ 64) (h0 : 0 ≤ init) (h1 : init ≤ 64) : ∀ n, 0 ≤ partGo q T s init n ∧ partGo q T s init n ≤ 64
  | 0 => ⟨h0, h1⟩
  | n + 1 => by
    have ih := partGo_range q T s init hT h0 h1 n
    unfold partGo
    split
    · have := getD_low hT (s - ((n + 1 : Nat) : Int)).toNat
      omega
    · exact ih
theorem tblI_range (q : List Int) : ∀ n, ∀ x ∈ tblI q n, 0 ≤ x ∧ x ≤ 64
  | 0, x, hx => by simp [tblI] at hx
  | n + 1, x, hx => by
    unfold tblI at hx
    rcases List.mem_append.1 hx with h | h
    · exact tblI_range q n x h
    · obtain rfl : x = cellI q (tblI q n) n := by simpa using h
      have hz := sz_bound n
      exact partGo_range q _ n _ (tblI_range q n) hz.1 hz.2 n
theorem partGo_yes {q T : List Int} {s init : Int} {p : Nat} {v y : Int} (h : partGo q T s init p = v) (h1 : (meetI ((p + 1 : Nat) : Int) s == ((p + 1 : Nat) : Int)) = true) (h2 : apartS ((p + 1 : Nat) : Int) q = true) (hy : T.getD (s - ((p + 1 : Nat) : Int)).toNat 0 = y) : partGo q T s init (p + 1) = if v ≤ y + 1 then v else y + 1 := by
  unfold partGo
  rw [h1, h2, if_pos (show (true && true) = true from rfl), h, hy]
  split <;> omega
theorem partGo_not {q T : List Int} {s init : Int} {p : Nat} {v : Int} (h : partGo q T s init p = v) (h1 : ((meetI ((p + 1 : Nat) : Int) s == ((p + 1 : Nat) : Int)) && apartS ((p + 1 : Nat) : Int) q) = false) : partGo q T s init (p + 1) = v := by
  unfold partGo
  rw [h1, if_neg (by decide), h]
end Go.Proofs.YtgpcbigaeodhfaaDoor
