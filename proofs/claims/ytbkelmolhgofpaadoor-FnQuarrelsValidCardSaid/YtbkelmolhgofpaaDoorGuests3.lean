/- Guests3: guests who are apart; contracts of the program and of the reference model.
   Conditions: lists have at most 1048576 elements. -/
import Derived.Test.YtbkelmolhgofpaaDoorGuests2
import Derived.Test.YtbkelmolhgofpaaDoorSlKit
import Derived.Test.YtbkelmolhgofpaaDoorZeros
namespace Go.Proofs.YtbkelmolhgofpaaDoor
open Go.RowKit Go.ChangeShapes Go.WideShapes Go.ChangeAt Go.Deep

set_option maxHeartbeats 800000 in
theorem isApart_any (s : Int) (A : Option Addr) (c : Nat) (ms : List Int) (w : World) (hA : IntsAt w A ms) (hl : ms.length ≤ 6) (HX : Hid (∀ x ∈ ms, 0 ≤ x ∧ x < 64)) (h0 : 0 ≤ s) (h1 : s < 64) :
    Calls Tryd.prog 77 #[.int .i64 s, .slice A ms.length c] w fun e w' => e = .returned (.bool (apartS s ms)) ∧ w = w' := by
  go_enter Tryd.func77, Tryd.ntmps77
  go_wp2_with fail
  go_loopw [9] (fun i wr => ∃ (k : Nat), k ≤ ms.length ∧ i = .int .i64 k ∧ Hid (apartS s ms = apGo s k (ms.drop k)) ∧ w = wr) (fun i _ => ms.length - (intOf i).toNat)
  case atStart => exact ⟨0, Nat.zero_le _, rfl, hide rfl, rfl⟩
  case round =>
    obtain ⟨k, hk, rfl, HG, rfl⟩ := hrel
    by_cases hlt : k < ms.length
    · obtain ⟨b, off, rfl, hbl, hc1⟩ := hA k ms[k] (List.getElem?_eq_getElem hlt)
      have HE : Hid (ms.drop k = ms[k] :: ms.drop (k + 1)) := hide (List.drop_eq_getElem_cons hlt)
      have hx := HX.out ms[k] (List.getElem_mem hlt)
      generalize ms[k] = p at *
      have hx0 : 0 ≤ p := hx.1
      have hx1 : p < 64 := hx.2
      clear hx
      have hz : (0 : Int) ≤ k := by omega
      have hz2 : (k : Int) < ms.length := by omega
      have hz3 : (k : Int) < 6 := by omega
      have hand := and_all' hx0 hx1 h0 h1
      cases hh : hasB s k with
      | false =>
        have HH := hide hh
        have H3 : Hid (apartS s ms = apGo s (k + 1) (ms.drop (k + 1))) := hide (by rw [HG.out, HE.out, apGo, hh]; rfl)
        clear hh hand
        go_wp2_with fail
        refine (inSet_w _ _ _ h0 h1 hz hz3 false (by rw [Int.toNat_natCast]; exact HH)).mono ?_
        rintro e w3 ⟨rfl, rfl⟩
        go_wp2_with fail
        go_roundw
        case rel => exact ⟨k + 1, hlt, by go_num, H3, trivial⟩
        case measure => simp [intOf]; omega
      | true =>
        have HH := hide hh
        cases hm : (meetI p s == 0) with
        | false =>
          have H3 : Hid (apartS s ms = false) := hide (by rw [HG.out, HE.out, apGo, hh, hm]; rfl)
          have hf : (bits .and .i64 p s != 0) = true := by rw [hand]; unfold bne; rw [hm]; rfl
          clear hh hm hand
          go_wp2_with fail
          refine (inSet_w _ _ _ h0 h1 hz hz3 true (by rw [Int.toNat_natCast]; exact HH)).mono ?_
          rintro e w3 ⟨rfl, rfl⟩
          go_wp2_with fail
          go_ret
          exact ⟨by rw [H3.out]; rfl, rfl⟩
        | true =>
          have H3 : Hid (apartS s ms = apGo s (k + 1) (ms.drop (k + 1))) := hide (by rw [HG.out, HE.out, apGo, hm]; simp)
          have hf : (bits .and .i64 p s != 0) = false := by rw [hand]; unfold bne; rw [hm]; rfl
          clear hh hm hand
          go_wp2_with fail
          refine (inSet_w _ _ _ h0 h1 hz hz3 true (by rw [Int.toNat_natCast]; exact HH)).mono ?_
          rintro e w3 ⟨rfl, rfl⟩
          go_wp2_with fail
          go_roundw
          case rel => exact ⟨k + 1, hlt, by go_num, H3, trivial⟩
          case measure => simp [intOf]; omega
    · have HE : Hid (apartS s ms = true) := hide (by rw [HG.out, List.drop_of_length_le (by omega)]; rfl)
      go_wp2_with fail
      go_ret
      exact ⟨by rw [HE.out]; rfl, rfl⟩

set_option maxHeartbeats 800000 in
theorem setOf_any (A : Option Addr) (c : Nat) (xs : List Int) (w : World) (hA : IntsAt w A xs) (hl : xs.length ≤ 1048576) (HX : Hid (∀ x ∈ xs, 0 ≤ x ∧ x < 6)) :
    Calls Tryd.prog 78 #[.slice A xs.length c] w fun e w' => e = .returned (.int .i64 (setL xs)) ∧ w = w' := by
  go_enter Tryd.func78, Tryd.ntmps78
  go_wp2_with fail
  go_loopw [3, 8] (fun sv i wr => ∃ (k : Nat) (s : Int), k ≤ xs.length ∧ i = .int .i64 k ∧ sv = .int .i64 s ∧ 0 ≤ s ∧ s < 64 ∧ Hid (setL xs = setGo (xs.drop k) s) ∧ w = wr) (fun _ i _ => xs.length - (intOf i).toNat)
  case atStart => exact ⟨0, 0, Nat.zero_le _, rfl, rfl, by omega, by omega, hide rfl, rfl⟩
  case round =>
    obtain ⟨k, s, hk, rfl, rfl, hs0, hs1, HG, rfl⟩ := hrel
    by_cases hlt : k < xs.length
    · obtain ⟨b, off, rfl, hbl, hc1⟩ := hA k xs[k] (List.getElem?_eq_getElem hlt)
      have HE : Hid (xs.drop k = xs[k] :: xs.drop (k + 1)) := hide (List.drop_eq_getElem_cons hlt)
      have hx := HX.out xs[k] (List.getElem_mem hlt)
      generalize xs[k] = p at *
      have hx0 : 0 ≤ p := hx.1
      have hx1 : p < 6 := hx.2
      clear hx
      have hz : (0 : Int) ≤ k := by omega
      have hz2 : (k : Int) < xs.length := by omega
      have hpw := pow_range p.toNat (by omega)
      have HO : Hid (bits .or .i64 s (2 ^ p.toNat) = orI s (2 ^ p.toNat)) := hide (or_all' _ _ hs0 hs1 (by omega) hpw.2)
      have ho := orI_lt hs1 hpw.2
      have H3 : Hid (setL xs = setGo (xs.drop (k + 1)) (orI s (2 ^ p.toNat))) := hide (by rw [HG.out, HE.out, setGo])
      go_wp2_with fail
      go_roundw
      case rel => exact ⟨k + 1, _, hlt, by go_num, by rw [HO.out], ho.1, ho.2, H3, trivial⟩
      case measure => simp [intOf]; omega
    · have HE : Hid (setL xs = s) := hide (by rw [HG.out, List.drop_of_length_le (by omega)]; rfl)
      go_wp2_with fail
      go_ret
      exact ⟨by rw [HE.out]; rfl, rfl⟩
end Go.Proofs.YtbkelmolhgofpaaDoor
