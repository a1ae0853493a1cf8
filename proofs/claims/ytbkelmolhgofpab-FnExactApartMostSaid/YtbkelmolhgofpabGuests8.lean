/- Guests8: contracts of ApartMost, of the program and of the reference model.
   Conditions: lists have at most 1048576 elements. -/
import Derived.Test.YtbkelmolhgofpabGuestMath4
import Derived.Test.YtbkelmolhgofpabGuests5
import Derived.Test.YtbkelmolhgofpabPush
namespace Go.Proofs.Ytbkelmolhgofpab
open Go.RowKit Go.ChangeShapes Go.WideShapes Go.ChangeAt Go.Deep

theorem most_step {ms : List Int} {k : Nat} {s : Int} (h : mostGo ms k = s) (ha : apartS k ms = true) : mostGo ms (k + 1) = if s < sz k then sz k else s := by
  unfold mostGo
  rw [if_pos ha, h]
  split <;> omega
theorem most_skip {ms : List Int} {k : Nat} {s : Int} (h : mostGo ms k = s) (ha : apartS k ms = false) : mostGo ms (k + 1) = s := by
  unfold mostGo
  rw [if_neg (by rw [ha]; decide), h]

set_option maxRecDepth 100000 in
set_option maxHeartbeats 2000000 in
theorem mostApart_any (A : Option Addr) (c : Nat) (ms : List Int) (w : World) (hA : IntsAt w A ms) (hl : ms.length ≤ 6) (HX : Hid (∀ x ∈ ms, 0 ≤ x ∧ x < 64)) :
    Calls Try.prog 53 #[.slice A ms.length c] w fun e w' => e = .returned (.int .i64 (mostGo ms (2 ^ ms.length))) ∧ w = w' := by
  have hp := pow_range6 ms.length hl
  have HN : Hid (((2 ^ ms.length : Nat) : Int) = (2 : Int) ^ ms.length) := hide (by simp)
  go_enter Try.func53, Try.ntmps53
  go_wp2_with fail
  go_loopw [3, 8] (fun sv i wr => ∃ (k : Nat) (s : Int), (k : Int) ≤ 2 ^ ms.length ∧ i = .int .i64 k ∧ sv = .int .i64 s ∧ 0 ≤ s ∧ s ≤ 64 ∧ Hid (mostGo ms k = s) ∧ w = wr) (fun _ i _ => 64 - (intOf i).toNat)
  case atStart => exact ⟨0, 0, by omega, rfl, rfl, by omega, by omega, hide rfl, rfl⟩
  case round =>
    obtain ⟨k, s, hk, rfl, rfl, hs0, hs1, HG, rfl⟩ := hrel
    by_cases hlt : (k : Int) < 2 ^ ms.length
    · have hk0 : (0 : Int) ≤ k := by omega
      have hk1 : (k : Int) < 64 := by omega
      cases ha : apartS k ms with
      | false =>
        have HA := hide ha
        have H3 := hide (most_skip HG.out ha)
        clear ha
        go_wp2_with fail
        refine (isApart_any _ _ _ _ _ hA hl HX hk0 hk1).mono ?_
        rintro e w1 ⟨rfl, rfl⟩
        rw [HA.out]
        go_wp2_with fail
        go_roundw
        case rel => exact ⟨k + 1, s, by omega, by go_num, rfl, hs0, hs1, H3, trivial⟩
        case measure => simp [intOf]; omega
      | true =>
        have HA := hide ha
        have H3 := hide (most_step HG.out ha)
        have hz := sz_bound k
        have HC := hide (fun W => sizeOf_any (k : Int) W hk0 (by omega))
        clear ha
        generalize sz (k : Int) = z at *
        by_cases hsz : s < z
        · have H4 : Hid (mostGo ms (k + 1) = z) := hide (by rw [H3.out, if_pos hsz])
          go_wp2_with fail
          refine (isApart_any _ _ _ _ _ hA hl HX hk0 hk1).mono ?_
          rintro e w1 ⟨rfl, rfl⟩
          rw [HA.out]
          go_wp2_with fail
          refine (HC.out _).mono ?_
          rintro e w1 ⟨rfl, rfl⟩
          go_wp2_with fail
          go_roundw
          case rel => exact ⟨k + 1, z, by omega, by go_num, rfl, hz.1, hz.2, H4, trivial⟩
          case measure => simp [intOf]; omega
        · have H4 : Hid (mostGo ms (k + 1) = s) := hide (by rw [H3.out, if_neg hsz])
          go_wp2_with fail
          refine (isApart_any _ _ _ _ _ hA hl HX hk0 hk1).mono ?_
          rintro e w1 ⟨rfl, rfl⟩
          rw [HA.out]
          go_wp2_with fail
          refine (HC.out _).mono ?_
          rintro e w1 ⟨rfl, rfl⟩
          go_wp2_with fail
          go_roundw
          case rel => exact ⟨k + 1, s, by omega, by go_num, rfl, hs0, hs1, H4, trivial⟩
          case measure => simp [intOf]; omega
    · have H3 : Hid (mostGo ms (2 ^ ms.length) = s) := hide (by rw [← HG.out, show k = 2 ^ ms.length from by have := HN.out; omega])
      go_wp2_with fail
      go_ret
      exact ⟨by rw [H3.out]; rfl, rfl⟩

theorem am_no {g : Int} {m : List Int} (h : menuOk g m = false) : apartMostL g m = -1 := by unfold apartMostL; rw [h]; rfl

set_option maxHeartbeats 1000000 in
theorem implApartMost_any (g : Int) (A : Option Addr) (c : Nat) (m : List Int) (w : World) (hA : IntsAt w A m) (hl : m.length ≤ 1048576) :
    Calls Try.prog 32 #[.int .i64 g, .slice A m.length c] w fun e w' => e = .returned (.int .i64 (apartMostL g m)) ∧ Below w.heap.size w w' := by
  cases hM : menuOk g m with
  | false =>
    have HM := hide hM
    have HR := hide (am_no hM)
    clear hM
    go_enter Try.func32, Try.ntmps32
    go_wp2_with fail
    refine (implMenuValid_any _ _ _ _ _ hA hl).mono ?_
    rintro e w1 ⟨rfl, hB1⟩
    rw [HM.out]
    go_wp2_with fail
    go_ret
    exact ⟨by rw [HR.out]; rfl, hB1⟩
  | true =>
    have HM := hide hM
    have hg0 := (menuOk_g hM).1
    have hg1 := (menuOk_g hM).2
    have h6 := menuOk_len hM
    have HX : Hid (∀ x ∈ m, 0 ≤ x ∧ x < 64) := hide (fun x hx => ⟨(menuOk_at hM hx).1, (menuOk_at hM hx).2.2⟩)
    have HSM : Hid (∀ x ∈ sharersL g m, 0 ≤ x ∧ x < 64) := hide (fun x hx => sharersL_mem hg1 HX.out hx)
    have hsl : (sharersL g m).length ≤ 6 := by rw [sharersL_len]; omega
    have HR : Hid (apartMostL g m = mostGo (sharersL g m) (2 ^ (sharersL g m).length)) := hide (by unfold apartMostL; rw [if_pos hM, sharersL_len])
    clear hM
    go_enter Try.func32, Try.ntmps32
    go_wp2_with fail
    refine (implMenuValid_any _ _ _ _ _ hA hl).mono ?_
    rintro e w1 ⟨rfl, hB1⟩
    rw [HM.out]
    go_wp2_with fail
    refine (sharersOf_any _ _ _ _ _ (hA.below hB1) h6 HX hg0 hg1).mono ?_
    rintro e w4 ⟨v, rfl, hSl, hB4⟩
    obtain ⟨A4, c4, rfl, hI4, -⟩ := hSl.form
    have hb4 := next hB1 hB4
    clear hSl
    go_wp2_with fail
    refine (mostApart_any _ _ _ _ hI4 hsl HSM).mono ?_
    rintro e w5 ⟨rfl, rfl⟩
    go_wp2_with fail
    go_ret
    exact ⟨by rw [HR.out]; rfl, hb4⟩

set_option maxRecDepth 100000 in
set_option maxHeartbeats 4000000 in
theorem specApartMost_any (g : Int) (A : Option Addr) (c : Nat) (m : List Int) (w : World) (hA : IntsAt w A m) (hl : m.length ≤ 1048576) :
    Calls Try.prog 31 #[.int .i64 g, .slice A m.length c] w fun e w' => e = .returned (.int .i64 (apartMostL g m)) ∧ Below w.heap.size w w' := by
  cases hM : menuOk g m with
  | false =>
    have HM := hide hM
    have HR := hide (am_no hM)
    clear hM
    go_enter Try.func31, Try.ntmps31
    go_wp2_with fail
    refine (specMenuValid_any _ _ _ _ _ hA hl).mono ?_
    rintro e w1 ⟨rfl, hB1⟩
    rw [HM.out]
    go_wp2_with fail
    go_ret
    exact ⟨by rw [HR.out]; rfl, hB1⟩
  | true =>
    have HM := hide hM
    have HMM := hide hM
    have hg0 := (menuOk_g hM).1
    have hg1 := (menuOk_g hM).2
    obtain ⟨n, rfl⟩ := Int.eq_ofNat_of_zero_le hg0
    have hn6 : n ≤ 6 := by omega
    have hp := pow_range6 n hn6
    have HN : Hid (((2 ^ n : Nat) : Int) = (2 : Int) ^ n) := hide (by simp)
    have HR : Hid (apartMostL n m = mostGo (sharersL n m) (2 ^ n)) := hide (by unfold apartMostL; rw [if_pos hM, Int.toNat_natCast])
    have HF := hide (full_nat n)
    clear hM
    go_enter Try.func31, Try.ntmps31
    go_wp2_with fail
    refine (specMenuValid_any _ _ _ _ _ hA hl).mono ?_
    rintro e w1 ⟨rfl, hB1⟩
    rw [HM.out]
    have hszB := hB1.size
    go_wp2_with fail
    go_loopw [5, 6] (fun sv i wr => ∃ (x s : Int), 0 ≤ x ∧ x ≤ 2 ^ n ∧ i = .int .i64 x ∧ sv = .int .i64 s ∧ 0 ≤ s ∧ s ≤ 64 ∧ Hid (mostGo (sharersL n m) x.toNat = s) ∧ Below w.heap.size w wr) (fun _ i _ => 64 - (intOf i).toNat)
    case atStart => exact ⟨0, 0, by omega, by omega, rfl, rfl, by omega, by omega, hide rfl, hB1⟩
    case round =>
      obtain ⟨x, s, hx0, hk, rfl, rfl, hs0, hs1, HG, hb⟩ := hrel
      have hsz := hb.size
      by_cases hlt : x < 2 ^ n
      · have hx1 : x < 64 := by omega
        have HL := hide (listTo_of (s := x) hg0 (by omega) hx0 (by rw [HF.out]; omega))
        have HAL := hide (apartL_listTo (s := x) HMM.out hx0 (by rw [HF.out]; omega))
        rw [Int.toNat_natCast] at HL HAL
        have HO0 : Hid (IntSl (wr.alloc (.cells #[] 3)) w.heap.size (.slice (some ⟨wr.heap.size, 0, none⟩) 0 0) []) := hide (World.ownsRow_lit wr #[] 0 hsz (by unfold maxLen; omega) rfl)
        have HBA : Hid (Below w.heap.size w (wr.alloc (.cells #[] 3))) := hide (hb.alloc hsz _)
        go_wp2_with fail
        go_loopw [7, 8] (fun ov j wr => ∃ (t : Nat), t ≤ n ∧ j = .int .i64 t ∧ IntSl wr w.heap.size ov (listTo x t) ∧ Below w.heap.size w wr) (fun _ j _ => n - (intOf j).toNat)
        case atStart => exact ⟨0, Nat.zero_le _, rfl, HO0.out, HBA.out⟩
        case round =>
          clear HO0 HBA hb hsz
          obtain ⟨t, ht, rfl, hS, hb⟩ := hrel
          have hsz := hb.size
          by_cases htl : t < n
          · have hd := div_range x t hx0 hx1
            have ht0 : (0 : Int) ≤ t := by omega
            have ht1 : (t : Int) < n := by omega
            cases hh : hasB x t with
            | false =>
              have hf : (x / 2 ^ t % 2 == 1) = false := hh
              have HS : Hid (IntSl wr w.heap.size u7 (listTo x (t + 1))) := hide (by unfold listTo; rw [hh]; exact hS)
              clear hh hS
              go_wp2_with fail
              go_roundw
              case rel => exact ⟨t + 1, htl, by go_num, HS.out, hb⟩
              case measure => simp [intOf]; omega
            | true =>
              have hf : (x / 2 ^ t % 2 == 1) = true := hh
              have HE : Hid (listTo x t ++ [(t : Int)] = listTo x (t + 1)) := hide (by rw [listTo, if_pos hh])
              have hlen := listTo_len x t
              have HSA := hide (World.ownsRow.alloc hS (.cells #[.int .i64 t] 3))
              have HBA := hide (hb.alloc hsz (.cells #[.int .i64 t] 3))
              have HLT := hide (World.ownsRow.lt hS)
              clear hh hS
              go_wp2_with (at_builtin; refine wpList_push_int rfl _ _ rfl w.heap.size u7 (listTo x t) rfl HSA.out wr.heap.size (t : Int) rfl (heap_alloc_new wr _) (by omega) (by simp; omega) ?_; intro g5 cap w5 hown hgrow hnew)
              have hb5 : Below w.heap.size w w5 := HBA.out.grown hgrow (by simp; omega) (fun k hk => (HLT.out k hk).1)
              rw [HE.out] at hown
              clear hgrow hnew
              go_wp2_with fail
              go_roundw
              case rel => exact ⟨t + 1, htl, by go_num, hown, hb5⟩
              case measure => simp [intOf]; omega
          · obtain rfl : t = n := by omega
            obtain ⟨xs, HXS⟩ : ∃ xs, Hid (listTo x t = xs) := ⟨_, hide rfl⟩
            rw [HXS.out] at hS HL HAL
            have hl6 : xs.length ≤ 6 := by have := listTo_len x t; rw [HXS.out] at this; omega
            obtain ⟨Ao, co, hu, hI, -⟩ := hS.form
            subst hu
            clear hS
            cases ha : apartS x (sharersL t m) with
            | false =>
              have HA := hide ha
              have H3 : Hid (mostGo (sharersL t m) (x + 1).toNat = s) := hide (by
                rw [show (x + 1).toNat = x.toNat + 1 from by omega]
                exact most_skip HG.out (by rw [Int.toNat_of_nonneg hx0]; exact ha))
              clear ha
              go_wp2_with fail
              refine (specApartValid_any _ _ _ _ _ _ _ _ (hA.below hb) hl hI (by omega)).mono ?_
              rintro e w2 ⟨rfl, hB2⟩
              rw [HAL.out, HA.out]
              have hb2 := next hb hB2
              go_wp2_with fail
              go_roundw
              case rel => exact ⟨x + 1, s, by omega, by omega, rfl, rfl, hs0, hs1, H3, hb2⟩
              case measure => simp [intOf]; omega
            | true =>
              have HA := hide ha
              have H3 : Hid (mostGo (sharersL t m) (x + 1).toNat = if s < (xs.length : Int) then (xs.length : Int) else s) := hide (by
                rw [show (x + 1).toNat = x.toNat + 1 from by omega]
                have := most_step HG.out (by rw [Int.toNat_of_nonneg hx0]; exact ha)
                rw [Int.toNat_of_nonneg hx0] at this
                rw [this, HL.out.2.2])
              clear ha
              by_cases hsl : s < (xs.length : Int)
              · have H4 : Hid (mostGo (sharersL t m) (x + 1).toNat = (xs.length : Int)) := hide (by rw [H3.out, if_pos hsl])
                go_wp2_with fail
                refine (specApartValid_any _ _ _ _ _ _ _ _ (hA.below hb) hl hI (by omega)).mono ?_
                rintro e w2 ⟨rfl, hB2⟩
                rw [HAL.out, HA.out]
                have hb2 := next hb hB2
                go_wp2_with fail
                go_roundw
                case rel => exact ⟨x + 1, xs.length, by omega, by omega, rfl, rfl, by omega, by omega, H4, hb2⟩
                case measure => simp [intOf]; omega
              · have H4 : Hid (mostGo (sharersL t m) (x + 1).toNat = s) := hide (by rw [H3.out, if_neg hsl])
                go_wp2_with fail
                refine (specApartValid_any _ _ _ _ _ _ _ _ (hA.below hb) hl hI (by omega)).mono ?_
                rintro e w2 ⟨rfl, hB2⟩
                rw [HAL.out, HA.out]
                have hb2 := next hb hB2
                go_wp2_with fail
                go_roundw
                case rel => exact ⟨x + 1, s, by omega, by omega, rfl, rfl, hs0, hs1, H4, hb2⟩
                case measure => simp [intOf]; omega
      · have H3 : Hid (apartMostL n m = s) := hide (by rw [HR.out, ← HG.out, show x.toNat = 2 ^ n from by have := HN.out; omega])
        go_wp2_with fail
        go_ret
        exact ⟨by rw [H3.out]; rfl, hb⟩
end Go.Proofs.Ytbkelmolhgofpab
