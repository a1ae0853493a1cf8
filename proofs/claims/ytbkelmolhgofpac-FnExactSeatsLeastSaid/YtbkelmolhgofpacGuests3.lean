/- Guests3: guests who are apart; contracts of the program and of the reference model.
   Conditions: lists have at most 1048576 elements. -/
import Derived.Test.YtbkelmolhgofpacGuests2
import Derived.Test.YtbkelmolhgofpacSlKit
import Derived.Test.YtbkelmolhgofpacZeros
namespace Go.Proofs.Ytbkelmolhgofpac
open Go.RowKit Go.ChangeShapes Go.WideShapes Go.ChangeAt Go.Deep

set_option maxHeartbeats 800000 in
theorem isApart_any (s : Int) (A : Option Addr) (c : Nat) (ms : List Int) (w : World) (hA : IntsAt w A ms) (hl : ms.length ≤ 6) (HX : Hid (∀ x ∈ ms, 0 ≤ x ∧ x < 64)) (h0 : 0 ≤ s) (h1 : s < 64) :
    Calls Try.prog 35 #[.int .i64 s, .slice A ms.length c] w fun e w' => e = .returned (.bool (apartS s ms)) ∧ w = w' := by
  go_enter Try.func35, Try.ntmps35
  go_wp2_with fail
  go_loopw [9] (fun i wr => ∃ (k : Nat), k ≤ ms.length ∧ i = .int .i64 k ∧ Hid (apartS s ms = apGo s k (ms.drop k)) ∧ w = wr) (fun i _ => ms.length - (intOf i).toNat)
  case atStart => exact ⟨0, Nat.zero_le _, rfl, hide rfl, rfl⟩
  case round =>
    obtain ⟨k, hk, rfl, HG, rfl⟩ := hrel
    by_cases hlt : k < ms.length
    · obtain ⟨b, off, rfl, hbl, hc1⟩ := hA k ms[k] (List.getElem?_eq_getElem hlt)
      have HE : Hid (ms.drop k = ms[k] :: ms.drop (k + 1)) := hide (List.drop_eq_getElem_cons hlt)
      have hx := HX.out ms[k] (List.getElem_mem hlt)
      generalize ms[k] = p at *
      have hx0 : 0 ≤ p := hx.1
      have hx1 : p < 64 := hx.2
      clear hx
      have hz : (0 : Int) ≤ k := by omega
      have hz2 : (k : Int) < ms.length := by omega
      have hz3 : (k : Int) < 6 := by omega
      have hand := and_all' hx0 hx1 h0 h1
      cases hh : hasB s k with
      | false =>
        have HH := hide hh
        have H3 : Hid (apartS s ms = apGo s (k + 1) (ms.drop (k + 1))) := hide (by rw [HG.out, HE.out, apGo, hh]; rfl)
        clear hh hand
        go_wp2_with fail
        refine (inSet_w _ _ _ h0 h1 hz hz3 false (by rw [Int.toNat_natCast]; exact HH)).mono ?_
        rintro e w3 ⟨rfl, rfl⟩
        go_wp2_with fail
        go_roundw
        case rel => exact ⟨k + 1, hlt, by go_num, H3, trivial⟩
        case measure => simp [intOf]; omega
      | true =>
        have HH := hide hh
        cases hm : (meetI p s == 0) with
        | false =>
          have H3 : Hid (apartS s ms = false) := hide (by rw [HG.out, HE.out, apGo, hh, hm]; rfl)
          have hf : (bits .and .i64 p s != 0) = true := by rw [hand]; unfold bne; rw [hm]; rfl
          clear hh hm hand
          go_wp2_with fail
          refine (inSet_w _ _ _ h0 h1 hz hz3 true (by rw [Int.toNat_natCast]; exact HH)).mono ?_
          rintro e w3 ⟨rfl, rfl⟩
          go_wp2_with fail
          go_ret
          exact ⟨by rw [H3.out]; rfl, rfl⟩
        | true =>
          have H3 : Hid (apartS s ms = apGo s (k + 1) (ms.drop (k + 1))) := hide (by rw [HG.out, HE.out, apGo, hm]; simp)
          have hf : (bits .and .i64 p s != 0) = false := by rw [hand]; unfold bne; rw [hm]; rfl
          clear hh hm hand
          go_wp2_with fail
          refine (inSet_w _ _ _ h0 h1 hz hz3 true (by rw [Int.toNat_natCast]; exact HH)).mono ?_
          rintro e w3 ⟨rfl, rfl⟩
          go_wp2_with fail
          go_roundw
          case rel => exact ⟨k + 1, hlt, by go_num, H3, trivial⟩
          case measure => simp [intOf]; omega
    · have HE : Hid (apartS s ms = true) := hide (by rw [HG.out, List.drop_of_length_le (by omega)]; rfl)
      go_wp2_with fail
      go_ret
      exact ⟨by rw [HE.out]; rfl, rfl⟩

end Go.Proofs.Ytbkelmolhgofpac
