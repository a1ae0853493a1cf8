/- Guests7: contracts of SeatsOk, of the program and of the reference model.
   Conditions: lists have at most 1048576 elements.
   Guests8: contracts of ApartMost, of the program and of the reference model.
   Conditions: lists have at most 1048576 elements.
   Guests9: contracts of DishesGreedy, of the program and of the reference model.
   Conditions: lists have at most 1048576 elements.
   Guests10: contracts of CliqueMost, of the program and of the reference model.
   Conditions: lists have at most 1048576 elements. -/
import Derived.Test.YthbainbgimbjeaaDoorZ3
import Derived.Test.YthbainbgimbjeaaDoorZ2
import Derived.Test.YthbainbgimbjeaaDoorPush
namespace Go.Proofs.YthbainbgimbjeaaDoor
open Go.RowKit Go.ChangeShapes Go.WideShapes Go.ChangeAt Go.Deep

theorem seats_no1 {g : Int} {q s : List Int} (h : quarOk g q = false) : seatsOkL g q s = false := by unfold seatsOkL; rw [h]; rfl
theorem seats_no2 {g : Int} {q s : List Int} (h : (decide ((s.length : Int) = g) && rangeOk (g - 1) s) = false) : seatsOkL g q s = false := by unfold seatsOkL; rw [h]; simp
theorem seats_bad {g : Int} {q s : List Int} {a b : Nat} (ha : a < s.length) (hb : b < a) (h : seatBad q s a b = true) : seatsOkL g q s = false := by
  have : allN s.length (seatFine q s) = false := allN_false ha (by unfold seatFine; exact allN_false hb (by rw [h]; rfl))
  unfold seatsOkL
  rw [this]
  simp

end Go.Proofs.YthbainbgimbjeaaDoor

namespace Go.Proofs.YthbainbgimbjeaaDoor
open Go.RowKit Go.ChangeShapes Go.WideShapes Go.ChangeAt Go.Deep

theorem most_step {ms : List Int} {k : Nat} {s : Int} (h : mostGo ms k = s) (ha : apartS k ms = true) : mostGo ms (k + 1) = if s < sz k then sz k else s := by
  unfold mostGo
  rw [if_pos ha, h]
  split <;> omega
theorem most_skip {ms : List Int} {k : Nat} {s : Int} (h : mostGo ms k = s) (ha : apartS k ms = false) : mostGo ms (k + 1) = s := by
  unfold mostGo
  rw [if_neg (by rw [ha]; decide), h]

set_option maxRecDepth 100000 in
set_option maxHeartbeats 2000000 in
theorem mostApart_any (A : Option Addr) (c : Nat) (ms : List Int) (w : World) (hA : IntsAt w A ms) (hl : ms.length ≤ 6) (HX : Hid (∀ x ∈ ms, 0 ≤ x ∧ x < 64)) :
    Calls Tryd.prog 36 #[.slice A ms.length c] w fun e w' => e = .returned (.int .i64 (mostGo ms (2 ^ ms.length))) ∧ w = w' := by
  have hp := pow_range6 ms.length hl
  have HN : Hid (((2 ^ ms.length : Nat) : Int) = (2 : Int) ^ ms.length) := hide (by simp)
  go_enter Tryd.func36, Tryd.ntmps36
  go_wp2_with fail
  go_loopw [3, 8] (fun sv i wr => ∃ (k : Nat) (s : Int), (k : Int) ≤ 2 ^ ms.length ∧ i = .int .i64 k ∧ sv = .int .i64 s ∧ 0 ≤ s ∧ s ≤ 64 ∧ Hid (mostGo ms k = s) ∧ w = wr) (fun _ i _ => 64 - (intOf i).toNat)
  case atStart => exact ⟨0, 0, by omega, rfl, rfl, by omega, by omega, hide rfl, rfl⟩
  case round =>
    obtain ⟨k, s, hk, rfl, rfl, hs0, hs1, HG, rfl⟩ := hrel
    by_cases hlt : (k : Int) < 2 ^ ms.length
    · have hk0 : (0 : Int) ≤ k := by omega
      have hk1 : (k : Int) < 64 := by omega
      cases ha : apartS k ms with
      | false =>
        have HA := hide ha
        have H3 := hide (most_skip HG.out ha)
        clear ha
        go_wp2_with fail
        refine (isApart_any _ _ _ _ _ hA hl HX hk0 hk1).mono ?_
        rintro e w1 ⟨rfl, rfl⟩
        rw [HA.out]
        go_wp2_with fail
        go_roundw
        case rel => exact ⟨k + 1, s, by omega, by go_num, rfl, hs0, hs1, H3, trivial⟩
        case measure => simp [intOf]; omega
      | true =>
        have HA := hide ha
        have H3 := hide (most_step HG.out ha)
        have hz := sz_bound k
        have HC := hide (fun W => sizeOf_any (k : Int) W hk0 (by omega))
        clear ha
        generalize sz (k : Int) = z at *
        by_cases hsz : s < z
        · have H4 : Hid (mostGo ms (k + 1) = z) := hide (by rw [H3.out, if_pos hsz])
          go_wp2_with fail
          refine (isApart_any _ _ _ _ _ hA hl HX hk0 hk1).mono ?_
          rintro e w1 ⟨rfl, rfl⟩
          rw [HA.out]
          go_wp2_with fail
          refine (HC.out _).mono ?_
          rintro e w1 ⟨rfl, rfl⟩
          go_wp2_with fail
          go_roundw
          case rel => exact ⟨k + 1, z, by omega, by go_num, rfl, hz.1, hz.2, H4, trivial⟩
          case measure => simp [intOf]; omega
        · have H4 : Hid (mostGo ms (k + 1) = s) := hide (by rw [H3.out, if_neg hsz])
          go_wp2_with fail
          refine (isApart_any _ _ _ _ _ hA hl HX hk0 hk1).mono ?_
          rintro e w1 ⟨rfl, rfl⟩
          rw [HA.out]
          go_wp2_with fail
          refine (HC.out _).mono ?_
          rintro e w1 ⟨rfl, rfl⟩
          go_wp2_with fail
          go_roundw
          case rel => exact ⟨k + 1, s, by omega, by go_num, rfl, hs0, hs1, H4, trivial⟩
          case measure => simp [intOf]; omega
    · have H3 : Hid (mostGo ms (2 ^ ms.length) = s) := hide (by rw [← HG.out, show k = 2 ^ ms.length from by have := HN.out; omega])
      go_wp2_with fail
      go_ret
      exact ⟨by rw [H3.out]; rfl, rfl⟩

theorem am_no {g : Int} {m : List Int} (h : menuOk g m = false) : apartMostL g m = -1 := by unfold apartMostL; rw [h]; rfl

set_option maxHeartbeats 1000000 in
theorem implApartMost_any (g : Int) (A : Option Addr) (c : Nat) (m : List Int) (w : World) (hA : IntsAt w A m) (hl : m.length ≤ 1048576) :
    Calls Tryd.prog 14 #[.int .i64 g, .slice A m.length c] w fun e w' => e = .returned (.int .i64 (apartMostL g m)) ∧ Below w.heap.size w w' := by
  cases hM : menuOk g m with
  | false =>
    have HM := hide hM
    have HR := hide (am_no hM)
    clear hM
    go_enter Tryd.func14, Tryd.ntmps14
    go_wp2_with fail
    refine (implMenuValid_any _ _ _ _ _ hA hl).mono ?_
    rintro e w1 ⟨rfl, hB1⟩
    rw [HM.out]
    go_wp2_with fail
    go_ret
    exact ⟨by rw [HR.out]; rfl, hB1⟩
  | true =>
    have HM := hide hM
    have hg0 := (menuOk_g hM).1
    have hg1 := (menuOk_g hM).2
    have h6 := menuOk_len hM
    have HX : Hid (∀ x ∈ m, 0 ≤ x ∧ x < 64) := hide (fun x hx => ⟨(menuOk_at hM hx).1, (menuOk_at hM hx).2.2⟩)
    have HSM : Hid (∀ x ∈ sharersL g m, 0 ≤ x ∧ x < 64) := hide (fun x hx => sharersL_mem hg1 HX.out hx)
    have hsl : (sharersL g m).length ≤ 6 := by rw [sharersL_len]; omega
    have HR : Hid (apartMostL g m = mostGo (sharersL g m) (2 ^ (sharersL g m).length)) := hide (by unfold apartMostL; rw [if_pos hM, sharersL_len])
    clear hM
    go_enter Tryd.func14, Tryd.ntmps14
    go_wp2_with fail
    refine (implMenuValid_any _ _ _ _ _ hA hl).mono ?_
    rintro e w1 ⟨rfl, hB1⟩
    rw [HM.out]
    go_wp2_with fail
    refine (sharersOf_any _ _ _ _ _ (hA.below hB1) h6 HX hg0 hg1).mono ?_
    rintro e w4 ⟨v, rfl, hSl, hB4⟩
    obtain ⟨A4, c4, rfl, hI4, -⟩ := hSl.form
    have hb4 := next hB1 hB4
    clear hSl
    go_wp2_with fail
    refine (mostApart_any _ _ _ _ hI4 hsl HSM).mono ?_
    rintro e w5 ⟨rfl, rfl⟩
    go_wp2_with fail
    go_ret
    exact ⟨by rw [HR.out]; rfl, hb4⟩

set_option maxRecDepth 100000 in
set_option maxHeartbeats 4000000 in
theorem specApartMost_any (g : Int) (A : Option Addr) (c : Nat) (m : List Int) (w : World) (hA : IntsAt w A m) (hl : m.length ≤ 1048576) :
    Calls Tryd.prog 24 #[.int .i64 g, .slice A m.length c] w fun e w' => e = .returned (.int .i64 (apartMostL g m)) ∧ Below w.heap.size w w' := by
  cases hM : menuOk g m with
  | false =>
    have HM := hide hM
    have HR := hide (am_no hM)
    clear hM
    go_enter Tryd.func24, Tryd.ntmps24
    go_wp2_with fail
    refine (specMenuValid_any _ _ _ _ _ hA hl).mono ?_
    rintro e w1 ⟨rfl, hB1⟩
    rw [HM.out]
    go_wp2_with fail
    go_ret
    exact ⟨by rw [HR.out]; rfl, hB1⟩
  | true =>
    have HM := hide hM
    have HMM := hide hM
    have hg0 := (menuOk_g hM).1
    have hg1 := (menuOk_g hM).2
    obtain ⟨n, rfl⟩ := Int.eq_ofNat_of_zero_le hg0
    have hn6 : n ≤ 6 := by omega
    have hp := pow_range6 n hn6
    have HN : Hid (((2 ^ n : Nat) : Int) = (2 : Int) ^ n) := hide (by simp)
    have HR : Hid (apartMostL n m = mostGo (sharersL n m) (2 ^ n)) := hide (by unfold apartMostL; rw [if_pos hM, Int.toNat_natCast])
    have HF := hide (full_nat n)
    clear hM
    go_enter Tryd.func24, Tryd.ntmps24
    go_wp2_with fail
    refine (specMenuValid_any _ _ _ _ _ hA hl).mono ?_
    rintro e w1 ⟨rfl, hB1⟩
    rw [HM.out]
    have hszB := hB1.size
    go_wp2_with fail
    go_loopw [5, 6] (fun sv i wr => ∃ (x s : Int), 0 ≤ x ∧ x ≤ 2 ^ n ∧ i = .int .i64 x ∧ sv = .int .i64 s ∧ 0 ≤ s ∧ s ≤ 64 ∧ Hid (mostGo (sharersL n m) x.toNat = s) ∧ Below w.heap.size w wr) (fun _ i _ => 64 - (intOf i).toNat)
    case atStart => exact ⟨0, 0, by omega, by omega, rfl, rfl, by omega, by omega, hide rfl, hB1⟩
    case round =>
      obtain ⟨x, s, hx0, hk, rfl, rfl, hs0, hs1, HG, hb⟩ := hrel
      have hsz := hb.size
      by_cases hlt : x < 2 ^ n
      · have hx1 : x < 64 := by omega
        have HL := hide (listTo_of (s := x) hg0 (by omega) hx0 (by rw [HF.out]; omega))
        have HAL := hide (apartL_listTo (s := x) HMM.out hx0 (by rw [HF.out]; omega))
        rw [Int.toNat_natCast] at HL HAL
        have HO0 : Hid (IntSl (wr.alloc (.cells #[] 3)) w.heap.size (.slice (some ⟨wr.heap.size, 0, none⟩) 0 0) []) := hide (World.ownsRow_lit wr #[] 0 hsz (by unfold maxLen; omega) rfl)
        have HBA : Hid (Below w.heap.size w (wr.alloc (.cells #[] 3))) := hide (hb.alloc hsz _)
        go_wp2_with fail
        go_loopw [7, 8] (fun ov j wr => ∃ (t : Nat), t ≤ n ∧ j = .int .i64 t ∧ IntSl wr w.heap.size ov (listTo x t) ∧ Below w.heap.size w wr) (fun _ j _ => n - (intOf j).toNat)
        case atStart => exact ⟨0, Nat.zero_le _, rfl, HO0.out, HBA.out⟩
        case round =>
          clear HO0 HBA hb hsz
          obtain ⟨t, ht, rfl, hS, hb⟩ := hrel
          have hsz := hb.size
          by_cases htl : t < n
          · have hd := div_range x t hx0 hx1
            have ht0 : (0 : Int) ≤ t := by omega
            have ht1 : (t : Int) < n := by omega
            cases hh : hasB x t with
            | false =>
              have hf : (x / 2 ^ t % 2 == 1) = false := hh
              have HS : Hid (IntSl wr w.heap.size u7 (listTo x (t + 1))) := hide (by unfold listTo; rw [hh]; exact hS)
              clear hh hS
              go_wp2_with fail
              go_roundw
              case rel => exact ⟨t + 1, htl, by go_num, HS.out, hb⟩
              case measure => simp [intOf]; omega
            | true =>
              have hf : (x / 2 ^ t % 2 == 1) = true := hh
              have HE : Hid (listTo x t ++ [(t : Int)] = listTo x (t + 1)) := hide (by rw [listTo, if_pos hh])
              have hlen := listTo_len x t
              have HSA := hide (World.ownsRow.alloc hS (.cells #[.int .i64 t] 3))
              have HBA := hide (hb.alloc hsz (.cells #[.int .i64 t] 3))
              have HLT := hide (World.ownsRow.lt hS)
              clear hh hS
              go_wp2_with (at_builtin; refine wpList_push_int rfl _ _ rfl w.heap.size u7 (listTo x t) rfl HSA.out wr.heap.size (t : Int) rfl (heap_alloc_new wr _) (by omega) (by simp; omega) ?_; intro g5 cap w5 hown hgrow hnew)
              have hb5 : Below w.heap.size w w5 := HBA.out.grown hgrow (by simp; omega) (fun k hk => (HLT.out k hk).1)
              rw [HE.out] at hown
              clear hgrow hnew
              go_wp2_with fail
              go_roundw
              case rel => exact ⟨t + 1, htl, by go_num, hown, hb5⟩
              case measure => simp [intOf]; omega
          · obtain rfl : t = n := by omega
            obtain ⟨xs, HXS⟩ : ∃ xs, Hid (listTo x t = xs) := ⟨_, hide rfl⟩
            rw [HXS.out] at hS HL HAL
            have hl6 : xs.length ≤ 6 := by have := listTo_len x t; rw [HXS.out] at this; omega
            obtain ⟨Ao, co, hu, hI, -⟩ := hS.form
            subst hu
            clear hS
            cases ha : apartS x (sharersL t m) with
            | false =>
              have HA := hide ha
              have H3 : Hid (mostGo (sharersL t m) (x + 1).toNat = s) := hide (by
                rw [show (x + 1).toNat = x.toNat + 1 from by omega]
                exact most_skip HG.out (by rw [Int.toNat_of_nonneg hx0]; exact ha))
              clear ha
              go_wp2_with fail
              refine (specApartValid_any _ _ _ _ _ _ _ _ (hA.below hb) hl hI (by omega)).mono ?_
              rintro e w2 ⟨rfl, hB2⟩
              rw [HAL.out, HA.out]
              have hb2 := next hb hB2
              go_wp2_with fail
              go_roundw
              case rel => exact ⟨x + 1, s, by omega, by omega, rfl, rfl, hs0, hs1, H3, hb2⟩
              case measure => simp [intOf]; omega
            | true =>
              have HA := hide ha
              have H3 : Hid (mostGo (sharersL t m) (x + 1).toNat = if s < (xs.length : Int) then (xs.length : Int) else s) := hide (by
                rw [show (x + 1).toNat = x.toNat + 1 from by omega]
                have := most_step HG.out (by rw [Int.toNat_of_nonneg hx0]; exact ha)
                rw [Int.toNat_of_nonneg hx0] at this
                rw [this, HL.out.2.2])
              clear ha
              by_cases hsl : s < (xs.length : Int)
              · have H4 : Hid (mostGo (sharersL t m) (x + 1).toNat = (xs.length : Int)) := hide (by rw [H3.out, if_pos hsl])
                go_wp2_with fail
                refine (specApartValid_any _ _ _ _ _ _ _ _ (hA.below hb) hl hI (by omega)).mono ?_
                rintro e w2 ⟨rfl, hB2⟩
                rw [HAL.out, HA.out]
                have hb2 := next hb hB2
                go_wp2_with fail
                go_roundw
                case rel => exact ⟨x + 1, xs.length, by omega, by omega, rfl, rfl, by omega, by omega, H4, hb2⟩
                case measure => simp [intOf]; omega
              · have H4 : Hid (mostGo (sharersL t m) (x + 1).toNat = s) := hide (by rw [H3.out, if_neg hsl])
                go_wp2_with fail
                refine (specApartValid_any _ _ _ _ _ _ _ _ (hA.below hb) hl hI (by omega)).mono ?_
                rintro e w2 ⟨rfl, hB2⟩
                rw [HAL.out, HA.out]
                have hb2 := next hb hB2
                go_wp2_with fail
                go_roundw
                case rel => exact ⟨x + 1, s, by omega, by omega, rfl, rfl, hs0, hs1, H4, hb2⟩
                case measure => simp [intOf]; omega
      · have H3 : Hid (apartMostL n m = s) := hide (by rw [HR.out, ← HG.out, show x.toNat = 2 ^ n from by have := HN.out; omega])
        go_wp2_with fail
        go_ret
        exact ⟨by rw [H3.out]; rfl, hb⟩
end Go.Proofs.YthbainbgimbjeaaDoor

namespace Go.Proofs.YthbainbgimbjeaaDoor
open Go.RowKit Go.ChangeShapes Go.WideShapes Go.ChangeAt Go.Deep

theorem or_more_all : ∀ x y : Fin 64, 0 < sz (dropI y.val x.val) → x.val < (orI x.val y.val).toNat := by decide +kernel
theorem or_more {x y : Int} (h0 : 0 ≤ x) (h1 : x < 64) (k0 : 0 ≤ y) (k1 : y < 64) (h : 0 < sz (dropI y x)) : x < orI x y := by
  have := or_more_all ⟨x.toNat, by omega⟩ ⟨y.toNat, by omega⟩ (by simpa only [Int.toNat_of_nonneg h0, Int.toNat_of_nonneg k0] using h)
  simp only [Int.toNat_of_nonneg h0, Int.toNat_of_nonneg k0] at this
  omega

theorem l1Meet64_any (a b : Int) (w : World) (h0 : 0 ≤ a) (h1 : a < 64) (h2 : 0 ≤ b) (h3 : b < 64) :
    Calls Tryd.prog 42 #[.int .i64 a, .int .i64 b] w fun e w' => e = .returned (.int .i64 (meetI a b)) ∧ w' = w := by
  have ho := orI_lt (a := a) (b := b) (by omega) (by omega)
  go_enter Tryd.func42, Tryd.ntmps42
  go_wp2_with fail
  refine (l1Join_any _ _ _ h0 h1 h2 h3).mono ?_
  rintro e w' ⟨rfl, rfl⟩
  go_wp2_with fail
  go_ret
  exact ⟨rfl, rfl⟩

theorem l6Count_is (s : Int) (w : World) (h0 : 0 ≤ s) (h1 : s ≤ 9223372036854775807) :
    Calls Tryd.prog 39 #[.int .i64 s] w fun e w' => e = .returned (.int .i64 (sz s)) ∧ w' = w := (l6Count_any s w h0 h1).mono fun _ _ h => ⟨h.1, h.2.symm⟩

set_option maxHeartbeats 1000000 in
theorem dishForMost_any (A : Option Addr) (c : Nat) (m : List Int) (fed : Int) (w : World) (hA : IntsAt w A m) (hl : m.length ≤ 6) (HX : Hid (∀ x ∈ m, 0 ≤ x ∧ x < 64)) (h0 : 0 ≤ fed) (h1 : fed < 64) :
    Calls Tryd.prog 41 #[.slice A m.length c, .int .i64 fed] w fun e w' => e = .returned (.int .i64 (bestL m fed)) ∧ w = w' := by
  go_enter Tryd.func41, Tryd.ntmps41
  go_wp2_with fail
  go_loopw [5, 6, 12] (fun bv mv i wr => ∃ (k : Nat) (b mo : Int), k ≤ m.length ∧ i = .int .i64 k ∧ bv = .int .i64 b ∧ mv = .int .i64 mo ∧ 0 ≤ mo ∧ mo ≤ 64 ∧ Hid (bestL m fed = (bestGo fed k (m.drop k) b mo).1) ∧ w = wr) (fun _ _ i _ => m.length - (intOf i).toNat)
  case atStart => exact ⟨0, -1, 0, Nat.zero_le _, rfl, rfl, rfl, by omega, by omega, hide rfl, rfl⟩
  case round =>
    obtain ⟨k, b, mo, hk, rfl, rfl, rfl, hm0, hm1, HG, rfl⟩ := hrel
    by_cases hlt : k < m.length
    · obtain ⟨ab, off, rfl, hbl, hc1⟩ := hA k m[k] (List.getElem?_eq_getElem hlt)
      have HE : Hid (m.drop k = m[k] :: m.drop (k + 1)) := hide (List.drop_eq_getElem_cons hlt)
      have hx := HX.out m[k] (List.getElem_mem hlt)
      generalize m[k] = p at *
      have hd := drop_range hx.1 hx.2 h0 h1
      have hw : bits .andNot .i64 p fed = dropI p fed := andNot_all' hx.1 hx.2 h0 h1
      have hz := sz_range hd.1 (by omega)
      have HC := hide (fun W => sizeOf_any (dropI p fed) W hd.1 (by omega))
      have HSTEP : Hid (bestL m fed = (if mo < sz (dropI p fed) then bestGo fed ((k + 1 : Nat) : Int) (m.drop (k + 1)) k (sz (dropI p fed)) else bestGo fed ((k + 1 : Nat) : Int) (m.drop (k + 1)) b mo).1) := hide (by rw [HG.out, HE.out, bestGo]; rfl)
      clear hx hd
      generalize sz (dropI p fed) = z at *
      generalize dropI p fed = d at *
      have hk0 : (0 : Int) ≤ k := by omega
      have hk1 : (k : Int) < m.length := by omega
      by_cases hlz : mo < z
      · have H3 : Hid (bestL m fed = (bestGo fed ((k + 1 : Nat) : Int) (m.drop (k + 1)) k z).1) := hide (by rw [HSTEP.out, if_pos hlz])
        go_wp2_with fail
        refine (HC.out _).mono ?_
        rintro e w1 ⟨rfl, rfl⟩
        go_wp2_with fail
        go_roundw
        case rel => exact ⟨k + 1, k, z, hlt, by go_num, rfl, rfl, hz.1, by omega, H3, trivial⟩
        case measure => simp [intOf]; omega
      · have H3 : Hid (bestL m fed = (bestGo fed ((k + 1 : Nat) : Int) (m.drop (k + 1)) b mo).1) := hide (by rw [HSTEP.out, if_neg hlz])
        go_wp2_with fail
        refine (HC.out _).mono ?_
        rintro e w1 ⟨rfl, rfl⟩
        go_wp2_with fail
        go_roundw
        case rel => exact ⟨k + 1, b, mo, hlt, by go_num, rfl, rfl, hm0, hm1, H3, trivial⟩
        case measure => simp [intOf]; omega
    · have H3 : Hid (bestL m fed = b) := hide (by rw [HG.out, List.drop_of_length_le (by omega)]; rfl)
      go_wp2_with fail
      go_ret
      exact ⟨by rw [H3.out]; rfl, rfl⟩

theorem greedy_no {g : Int} {m : List Int} (h : menuOk g m = false) : greedyL g m = [] := by unfold greedyL; rw [h]; rfl
/-- What is known of a round: how many rounds may follow, and where they lead. -/
theorem greedy_step {m : List Int} {f : Nat} {fed : Int} (hX : ∀ x ∈ m, 0 ≤ x ∧ x < 64) (h0 : 0 ≤ fed) (h1 : fed < 64) (hf : 7 ≤ (f : Int) + sz fed) :
    (bestL m fed < 0 ∧ greedyGo m f fed = []) ∨ ∃ (j f' : Nat) (e : Int), f = f' + 1 ∧ bestL m fed = j ∧ m[j]? = some e ∧ greedyGo m f fed = (j : Int) :: greedyGo m f' (orI fed e) ∧ 7 ≤ (f' : Int) + sz (orI fed e) ∧ fed < orI fed e := by
  have hz := sz_range h0 h1
  obtain ⟨f', rfl⟩ : ∃ f', f = f' + 1 := ⟨f - 1, by omega⟩
  rcases bestL_at m fed with h | ⟨j, e, he, hl, hj⟩
  · refine .inl ⟨by omega, ?_⟩
    unfold greedyGo
    rw [if_pos (by omega)]
  · have hx := hX e (List.mem_of_getElem? he)
    have hs := sz_or h0 h1 hx.1 hx.2
    refine .inr ⟨j, f', e, rfl, hj, he, ?_, by omega, or_more h0 h1 hx.1 hx.2 hl⟩
    rw [greedyGo, if_neg (by omega), hj, Int.toNat_natCast, getD_at he]

set_option maxRecDepth 100000 in
set_option maxHeartbeats 2000000 in
theorem implDishesGreedy_any (g : Int) (A : Option Addr) (c : Nat) (m : List Int) (w : World) (hA : IntsAt w A m) (hl : m.length ≤ 1048576) :
    Calls Tryd.prog 19 #[.int .i64 g, .slice A m.length c] w fun e w' => ∃ v, e = .returned v ∧ IntSl w' w.heap.size v (greedyL g m) ∧ Below w.heap.size w w' := by
  cases hM : menuOk g m with
  | false =>
    have HM := hide hM
    have HR := hide (greedy_no hM)
    clear hM
    go_enter Tryd.func19, Tryd.ntmps19
    go_wp2_with fail
    refine (implMenuValid_any _ _ _ _ _ hA hl).mono ?_
    rintro e w1 ⟨rfl, hB1⟩
    rw [HM.out]
    go_wp2_with fail
    refine bodyPost_ret (results_tmp rfl _ _ _) rfl ⟨.slice none 0 0, rfl, by rw [HR.out]; exact World.ownsRow_nil _ _ _ _, hB1⟩
  | true =>
    have HM := hide hM
    have h6 := menuOk_len hM
    have HX : Hid (∀ x ∈ m, 0 ≤ x ∧ x < 64) := hide (fun x hx => ⟨(menuOk_at hM hx).1, (menuOk_at hM hx).2.2⟩)
    have HR : Hid (greedyL g m = greedyGo m 7 0) := hide (by unfold greedyL; rw [if_pos hM])
    have HZ : Hid (∀ _ : Unit, sz 0 = 0) := hide (fun _ => by decide +kernel)
    clear hM
    go_enter Tryd.func19, Tryd.ntmps19
    go_wp2_with fail
    refine (implMenuValid_any _ _ _ _ _ hA hl).mono ?_
    rintro e w1 ⟨rfl, hB1⟩
    rw [HM.out]
    have hszB := hB1.size
    go_wp2_with fail
    go_loopw [5, 6] (fun ov fv wr => ∃ (f : Nat) (fed : Int) (out : List Int), fv = .int .i64 fed ∧ 0 ≤ fed ∧ fed < 64 ∧ Hid (out.length + f = 7) ∧ Hid (∀ _ : Unit, 7 ≤ (f : Int) + sz fed) ∧ Hid (greedyL g m = out ++ greedyGo m f fed) ∧ IntSl wr w.heap.size ov out ∧ Below w.heap.size w wr) (fun _ fv _ => (64 - intOf fv).toNat)
    case atStart => exact ⟨7, 0, [], rfl, by omega, by omega, hide rfl, hide (fun _ => by rw [HZ.out ()]; omega), HR, World.ownsRow_nil _ _ _ _, hB1⟩
    case round =>
      obtain ⟨f, fed, out, rfl, hf0, hf1, HOL, HF, HG, hS, hb⟩ := hrel
      have hol : out.length ≤ 7 := by have := HOL.out; omega
      have hsz := hb.size
      have HC := hide (dishForMost_any A c m fed wr (hA.below hb) h6 HX hf0 hf1)
      rcases greedy_step HX.out hf0 hf1 (HF.out ()) with ⟨hneg, he⟩ | ⟨j, f', e, rfl, hj, hme, he, hf', hmore⟩
      · have H3 : Hid (greedyL g m = out) := hide (by rw [HG.out, he, List.append_nil])
        have HS := hide hS
        generalize bestL m fed = b at *
        clear he hS
        go_wp2_with fail
        refine (HC.out).mono ?_
        rintro e w2 ⟨rfl, rfl⟩
        go_wp2_with fail
        refine bodyPost_ret (results_tmp rfl _ _ _) rfl ⟨_, rfl, by rw [H3.out]; exact HS.out, hb⟩
      · have H3 : Hid (greedyL g m = (out ++ [(j : Int)]) ++ greedyGo m f' (orI fed e)) := hide (by rw [HG.out, he, List.append_assoc]; rfl)
        have HF2 := hide (fun _ : Unit => hf')
        have hx := HX.out e (List.mem_of_getElem? hme)
        have hx0 : 0 ≤ e := hx.1
        have hx1 : e < 64 := hx.2
        have HO := hide (or_all' fed e hf0 hf1 hx0 hx1)
        have ho := orI_lt hf1 hx1
        have hjl : j < m.length := (List.getElem?_eq_some_iff.1 hme).1
        have hj0 : (0 : Int) ≤ j := by omega
        have hj1 : (j : Int) < m.length := by omega
        have HME := hide hme
        have HLEN : Hid ((out ++ [(j : Int)]).length + f' = 7) := hide (by rw [List.length_append]; have := HOL.out; simp; omega)
        rw [hj] at HC
        have HSA := hide (World.ownsRow.alloc hS (.cells #[.int .i64 j] 3))
        have HBA := hide (hb.alloc hsz (.cells #[.int .i64 j] 3))
        have HLT := hide (World.ownsRow.lt hS)
        obtain ⟨b2, off2, rfl, hbl2, -⟩ := hA j e hme
        clear he hS hx hj hme hf'
        go_wp2_with fail
        refine (HC.out).mono ?_
        rintro e' w2 ⟨rfl, rfl⟩
        go_wp2_with (at_builtin; refine wpList_push_int rfl _ _ rfl w.heap.size u5 out rfl HSA.out wr.heap.size (j : Int) rfl (heap_alloc_new wr _) (by omega) (by simp; omega) ?_; intro g5 cap w5 hown hgrow hnew; have hb5 : Below w.heap.size w w5 := HBA.out.grown hgrow (by simp; omega) (fun k hk => (HLT.out k hk).1); have hcm := (hA.below hb5).cellOf HME.out; clear hgrow hnew)
        go_roundw
        case rel => exact ⟨f', orI fed e, out ++ [(j : Int)], by rw [HO.out], ho.1, ho.2, HLEN, HF2, H3, hown, hb5⟩
        case measure => rw [HO.out]; simp [intOf]; omega

set_option maxRecDepth 100000 in
set_option maxHeartbeats 4000000 in
theorem specDishesGreedy_any (g : Int) (A : Option Addr) (c : Nat) (m : List Int) (w : World) (hA : IntsAt w A m) (hl : m.length ≤ 1048576) :
    Calls Tryd.prog 21 #[.int .i64 g, .slice A m.length c] w fun e w' => ∃ v, e = .returned v ∧ IntSl w' w.heap.size v (greedyL g m) ∧ Below w.heap.size w w' := by
  have HO0 : Hid (IntSl (w.alloc (.cells #[] 3)) w.heap.size (.slice (some ⟨w.heap.size, 0, none⟩) 0 0) []) := hide (World.ownsRow_lit w #[] 0 (Nat.le_refl _) (by unfold maxLen; omega) rfl)
  have HBA0 : Hid (Below w.heap.size w (w.alloc (.cells #[] 3))) := hide (by go_grown)
  cases hM : menuOk g m with
  | false =>
    have HM := hide hM
    have HR := hide (greedy_no hM)
    clear hM
    go_enter Tryd.func21, Tryd.ntmps21
    go_wp2_with fail
    go_loopw [5, 6] (fun ov fv wr => ov = .slice (some ⟨w.heap.size, 0, none⟩) 0 0 ∧ fv = .int .i64 0 ∧ wr = w.alloc (.cells #[] 3)) (fun _ _ _ => 0)
    case atStart => exact ⟨rfl, rfl, rfl⟩
    case round =>
      obtain ⟨rfl, rfl, rfl⟩ := hrel
      go_wp2_with fail
      refine (specMenuValid_any _ _ _ _ _ (hA.below HBA0.out) hl).mono ?_
      rintro e w1 ⟨rfl, hB1⟩
      rw [HM.out]
      have HP1 := hide (IntSl.below HO0.out hB1)
      have hb1 := next HBA0.out hB1
      go_wp2_with fail
      refine bodyPost_ret (results_tmp rfl _ _ _) rfl ⟨_, rfl, by rw [HR.out]; exact HP1.out, hb1⟩
  | true =>
    have HM := hide hM
    have h6 := menuOk_len hM
    have HX : Hid (∀ x ∈ m, 0 ≤ x ∧ x < 64) := hide (fun x hx => ⟨(menuOk_at hM hx).1, (menuOk_at hM hx).2.2⟩)
    have HR : Hid (greedyL g m = greedyGo m 7 0) := hide (by unfold greedyL; rw [if_pos hM])
    have HZ : Hid (∀ _ : Unit, sz 0 = 0) := hide (fun _ => by decide +kernel)
    clear hM
    go_enter Tryd.func21, Tryd.ntmps21
    go_wp2_with fail
    go_loopw [5, 6] (fun ov fv wr => ∃ (f : Nat) (fed : Int) (out : List Int), fv = .int .i64 fed ∧ 0 ≤ fed ∧ fed < 64 ∧ Hid (out.length + f = 7) ∧ Hid (∀ _ : Unit, 7 ≤ (f : Int) + sz fed) ∧ Hid (greedyL g m = out ++ greedyGo m f fed) ∧ IntSl wr w.heap.size ov out ∧ Below w.heap.size w wr) (fun _ fv _ => (64 - intOf fv).toNat)
    case atStart => exact ⟨7, 0, [], rfl, by omega, by omega, hide rfl, hide (fun _ => by rw [HZ.out ()]; omega), HR, HO0.out, HBA0.out⟩
    case round =>
      clear HO0 HBA0
      obtain ⟨f, fed, out, rfl, hf0, hf1, HOL, HF, HG, hS, hb⟩ := hrel
      have hol : out.length ≤ 7 := by have := HOL.out; omega
      have HS := hide hS
      clear hS
      go_wp2_with fail
      refine (specMenuValid_any _ _ _ _ _ (hA.below hb) hl).mono ?_
      rintro e w1 ⟨rfl, hB1⟩
      rw [HM.out]
      have HS1 := hide (IntSl.below HS.out hB1)
      have hb1 := next hb hB1
      clear HS hb hB1
      go_wp2_with fail
      go_loopw [7, 8, 9] (fun bv mv i wr => ∃ (k : Nat) (b mo : Int), k ≤ m.length ∧ i = .int .i64 k ∧ bv = .int .i64 b ∧ mv = .int .i64 mo ∧ 0 ≤ mo ∧ mo ≤ 64 ∧ Hid (bestL m fed = (bestGo fed k (m.drop k) b mo).1) ∧ IntSl wr w.heap.size u5 out ∧ Below w.heap.size w wr) (fun _ _ i _ => m.length - (intOf i).toNat)
      case atStart => exact ⟨0, -1, 0, Nat.zero_le _, rfl, rfl, rfl, by omega, by omega, hide rfl, HS1.out, hb1⟩
      case round =>
        clear HS1 hb1
        obtain ⟨k, b, mo, hk, rfl, rfl, rfl, hm0, hm1, HB, hS, hb⟩ := hrel
        have hsz := hb.size
        by_cases hlt : k < m.length
        · obtain ⟨ab, off, rfl, hbl, hc1⟩ := (hA.below hb) k m[k] (List.getElem?_eq_getElem hlt)
          have HE : Hid (m.drop k = m[k] :: m.drop (k + 1)) := hide (List.drop_eq_getElem_cons hlt)
          have hx := HX.out m[k] (List.getElem_mem hlt)
          generalize m[k] = p at *
          have hd := drop_range hx.1 hx.2 hf0 hf1
          have hmt := meet_range hx.1 hx.2 hf0 hf1
          have hz := sz_range hd.1 (by omega)
          have hza := sz_range hx.1 hx.2
          have hzb := sz_range hmt.1 (by omega)
          have HSD := hide (sz_drop hx.1 hx.2 hf0 hf1)
          have HC1 := hide (fun W => l6Count_is p W hx.1 (by omega))
          have HC2 := hide (fun W => l6Count_is (meetI p fed) W hmt.1 (by omega))
          have HC3 := hide (fun W => l1Meet64_any p fed W hx.1 hx.2 hf0 hf1)
          have HSTEP : Hid (bestL m fed = (if mo < sz p - sz (meetI p fed) then bestGo fed ((k + 1 : Nat) : Int) (m.drop (k + 1)) k (sz p - sz (meetI p fed)) else bestGo fed ((k + 1 : Nat) : Int) (m.drop (k + 1)) b mo).1) := hide (by rw [HB.out, HE.out, bestGo, HSD.out]; rfl)
          rw [HSD.out] at hz
          clear hx hd hmt HSD
          generalize sz p = z1 at *
          generalize sz (meetI p fed) = z2 at *
          generalize meetI p fed = d at *
          have hw1 : IntKind.i64.wrap (z1 - z2) = z1 - z2 := IntWalk.i64_in _ (by omega)
          have hk0 : (0 : Int) ≤ k := by omega
          have hk1 : (k : Int) < m.length := by omega
          have HS := hide hS
          clear hS
          by_cases hlz : mo < z1 - z2
          · have H3 : Hid (bestL m fed = (bestGo fed ((k + 1 : Nat) : Int) (m.drop (k + 1)) k (z1 - z2)).1) := hide (by rw [HSTEP.out, if_pos hlz])
            go_wp2_with fail
            go_quiet (first | (go_at_call 39; first | (with_reducible exact Calls.quiet_of_same (HC1.out _)) | (with_reducible exact Calls.quiet_of_same (HC2.out _))) | (go_at_call 42; exact Calls.quiet_of_same (HC3.out _)))
            go_wp2_with fail
            go_roundw
            case rel => exact ⟨k + 1, k, z1 - z2, hlt, by go_num, rfl, rfl, hz.1, by omega, H3, IntSl.below HS.out (below_drewN (Below.refl _ _) _), below_drewN hb _⟩
            case measure => simp [intOf]; omega
          · have H3 : Hid (bestL m fed = (bestGo fed ((k + 1 : Nat) : Int) (m.drop (k + 1)) b mo).1) := hide (by rw [HSTEP.out, if_neg hlz])
            go_wp2_with fail
            go_quiet (first | (go_at_call 39; first | (with_reducible exact Calls.quiet_of_same (HC1.out _)) | (with_reducible exact Calls.quiet_of_same (HC2.out _))) | (go_at_call 42; exact Calls.quiet_of_same (HC3.out _)))
            go_wp2_with fail
            go_roundw
            case rel => exact ⟨k + 1, b, mo, hlt, by go_num, rfl, rfl, hm0, hm1, H3, IntSl.below HS.out (below_drewN (Below.refl _ _) _), below_drewN hb _⟩
            case measure => simp [intOf]; omega
        · have HBB : Hid (bestL m fed = b) := hide (by rw [HB.out, List.drop_of_length_le (by omega)]; rfl)
          rcases greedy_step HX.out hf0 hf1 (HF.out ()) with ⟨hneg, he⟩ | ⟨j, f', e, rfl, hj, hme, he, hf', hmore⟩
          · have H3 : Hid (greedyL g m = out) := hide (by rw [HG.out, he, List.append_nil])
            have hb0 : b < 0 := by rw [← HBB.out]; exact hneg
            have HS := hide hS
            clear he hS hneg
            go_wp2_with fail
            refine bodyPost_ret (results_tmp rfl _ _ _) rfl ⟨_, rfl, by rw [H3.out]; exact HS.out, hb⟩
          · obtain rfl : b = j := by rw [← HBB.out]; exact hj
            have H3 : Hid (greedyL g m = (out ++ [(j : Int)]) ++ greedyGo m f' (orI fed e)) := hide (by rw [HG.out, he, List.append_assoc]; rfl)
            have HF2 := hide (fun _ : Unit => hf')
            have hx := HX.out e (List.mem_of_getElem? hme)
            have hx0 : 0 ≤ e := hx.1
            have hx1 : e < 64 := hx.2
            have ho := orI_lt hf1 hx1
            have hjl : j < m.length := (List.getElem?_eq_some_iff.1 hme).1
            have hj0 : (0 : Int) ≤ j := by omega
            have hj1 : (j : Int) < m.length := by omega
            have HME := hide hme
            have HLEN : Hid ((out ++ [(j : Int)]).length + f' = 7) := hide (by rw [List.length_append]; have := HOL.out; simp; omega)
            have HSA := hide (World.ownsRow.alloc hS (.cells #[.int .i64 j] 3))
            have HBA := hide (hb.alloc hsz (.cells #[.int .i64 j] 3))
            have HLT := hide (World.ownsRow.lt hS)
            obtain ⟨b2, off2, rfl, hbl2, -⟩ := hA j e hme
            clear he hS hx hj hme hf'
            go_wp2_with (at_builtin; refine wpList_push_int rfl _ _ rfl w.heap.size u5 out rfl HSA.out wr.heap.size (j : Int) rfl (heap_alloc_new wr _) (by omega) (by simp; omega) ?_; intro g5 cap w5 hown hgrow hnew; have hb5 : Below w.heap.size w w5 := HBA.out.grown hgrow (by simp; omega) (fun k hk => (HLT.out k hk).1); have hcm := (hA.below hb5).cellOf HME.out; clear hgrow hnew)
            refine (l1Join_w _ _ _ hf0 hf1 hx0 hx1).mono ?_
            rintro e' w6 ⟨rfl, rfl⟩
            go_wp2_with fail
            go_roundw
            case rel => exact ⟨f', orI fed e, out ++ [(j : Int)], rfl, ho.1, ho.2, HLEN, HF2, H3, hown, hb5⟩
            case measure => simp [intOf]; omega
end Go.Proofs.YthbainbgimbjeaaDoor

namespace Go.Proofs.YthbainbgimbjeaaDoor
open Go.RowKit Go.ChangeShapes Go.WideShapes Go.ChangeAt Go.Deep

theorem cq_no {g : Int} {q : List Int} (h : quarOk g q = false) : cliqueMostL g q = -1 := by unfold cliqueMostL; rw [h]; rfl
theorem allN_succ (n : Nat) (f : Nat → Bool) : allN (n + 1) f = (allN n f && f n) := by unfold allN; rw [List.range_succ, List.all_append]; simp
theorem bit_zero (x : Int) (k : Nat) : (x / 2 ^ k % 2 == 0) = !hasB x k := by
  unfold hasB
  rcases Int.emod_two_eq (x / 2 ^ k) with h | h <;> rw [h] <;> rfl
theorem allGuests_is (g : Int) (w : World) (h0 : 0 ≤ g) (h1 : g ≤ 6) :
    Calls Tryd.prog 31 #[.int .i64 g] w fun e w' => e = .returned (.int .i64 (full g)) ∧ w' = w := (allGuests_any g w h0 h1).mono fun _ _ h => ⟨h.1, h.2.symm⟩

end Go.Proofs.YthbainbgimbjeaaDoor
