/- For all drawn bytes the law of LotsAt answers true, and its argument reads as it did.
   Conditions: none. -/
import Derived.Test.YtecmghoklleheaaDoorLawKit
import Derived.Test.YtecmghoklleheaaDoorDrawSt
namespace Go.Proofs.YtecmghoklleheaaDoor
open Go.RowKit Go.ChangeShapes Go.WideShapes Go.ChangeAt

def manySum : List Lot → Int
  | [] => 0
  | x :: r => x.many + manySum r

theorem units_less {l : List Lot} (h : ∀ x ∈ l, 0 ≤ x.many ∧ x.many ≤ 9 ∧ 0 ≤ x.last ∧ x.last ≤ 5) (day : Int) : unitsGo (day + 1) l ≤ unitsGo day l ∧ unitsGo 0 l = manySum l := by
  induction l with
  | nil => simp [unitsGo, manySum]
  | cons x r ih =>
    have a := ih (fun y hy => h y (by simp [hy]))
    have b := h x (by simp)
    have u1 : usab x (day + 1) ≤ usab x day := by unfold usab; split <;> split <;> omega
    have u2 : usab x 0 = x.many := by unfold usab; rw [if_neg (by omega)]
    simp only [unitsGo, manySum]
    omega

theorem manySum_range {l : List Lot} (h : ∀ x ∈ l, 0 ≤ x.many ∧ x.many ≤ 9 ∧ 0 ≤ x.last ∧ x.last ≤ 5) : ∀ k, 0 ≤ manySum (l.take k) ∧ manySum (l.take k) ≤ 9 * k := by
  intro k
  induction l generalizing k with
  | nil => simp [manySum]; omega
  | cons x r ih =>
    cases k with
    | zero => simp [manySum]
    | succ k =>
      have a := ih (fun y hy => h y (by simp [hy])) k
      have b := h x (by simp)
      simp only [List.take_succ_cons, manySum]
      omega

theorem manySum_succ {l : List Lot} {k : Nat} {x : Lot} (h : l[k]? = some x) : manySum (l.take (k + 1)) = manySum (l.take k) + x.many := by
  induction l generalizing k with
  | nil => simp at h
  | cons y r ih =>
    cases k with
    | zero =>
      obtain rfl : y = x := by simpa using h
      simp [manySum]
    | succ k =>
      simp only [List.take_succ_cons, manySum]
      rw [ih (by simpa using h)]
      omega

set_option maxRecDepth 100000 in
set_option maxHeartbeats 2000000 in
theorem lawLotsAt_any (A : Option Addr) (c m : Nat) (w : World) (hB : BytesIn w A m) (hc : m ≤ c) (hc2 : c ≤ 9223372036854775807) :
    Calls Tryd.prog 5 #[.slice A m c] w fun e w' => e = .returned (.bool true) ∧ Below w.heap.size w w' := by
  by_cases hlen : (1048576 : Int) < m
  · go_enter Tryd.func5, Tryd.ntmps5
    go_wp2_with fail
    go_ret
    exact ⟨rfl, by go_grown⟩
  · go_enter Tryd.func5, Tryd.ntmps5
    go_wp2_with fail
    refine (drawLotsAt_any A c m w hB (by omega) hc hc2).mono ?_
    rintro e w1 ⟨ls, g, c1, d, rfl, hS, hl, hd0, hd1, hb1⟩
    have hl' : ls.length ≤ 1048576 := by omega
    have HI := hide hS.lots
    have hne1 : (unitsL ls d != unitsL ls d) = false := by simp
    clear hS
    cases hok : lotsOk ls with
    | false =>
      have HOK := hide hok
      have HU : Hid (unitsL ls d = -1) := by unfold unitsL; rw [hok]; exact hide rfl
      clear hok
      rw [HU.out] at hne1
      go_wp2_with fail
      refine (implLotsAt_any _ _ _ _ _ HI.out hl').mono ?_
      rintro e w2 ⟨rfl, hB2⟩
      have hb2 := next hb1 hB2
      have HI2 := hide (HI.out.below hB2)
      rw [HU.out]
      clear hB2
      go_wp2_with fail
      refine (specLotsAt_any _ _ _ _ _ HI2.out hl').mono ?_
      rintro e w3 ⟨rfl, hB3⟩
      have hb3 := next hb2 hB3
      have HI3 := hide (HI2.out.below hB3)
      rw [HU.out]
      clear hB3
      go_wp2_with fail
      refine (implLotsValid_any _ _ _ _ HI3.out hl').mono ?_
      rintro e w4 ⟨rfl, hB4⟩
      have hb4 := next hb3 hB4
      rw [HOK.out]
      clear hB4
      go_wp2_with fail
      refine (alive_any _).mono ?_
      rintro e w5 ⟨rfl, hB5⟩
      go_wp2_with fail
      go_ret
      exact ⟨rfl, next hb4 hB5⟩
    | true =>
      have HOK := hide hok
      have HM := hide (fun x (hx : x ∈ ls) => lotsOk_at hok hx)
      have hr := unitsL_range hok d
      have hr0 := unitsL_range hok 0
      have hr1 := unitsL_range hok (d + 1)
      have hul : unitsL ls (d + 1) ≤ unitsL ls d ∧ unitsL ls 0 = manySum ls := by
        unfold unitsL
        rw [hok, if_pos rfl, if_pos rfl, if_pos rfl]
        exact units_less HM.out d
      have HU0 := hide hul.2
      have hle := hul.1
      have h5 := lotsOk_len hok
      obtain ⟨x1, HX1⟩ : ∃ x, Hid (unitsL ls (d + 1) = x) := ⟨_, hide rfl⟩
      obtain ⟨x0, HX0⟩ : ∃ x, Hid (unitsL ls 0 = x) := ⟨_, hide rfl⟩
      obtain ⟨x, HX⟩ : ∃ x, Hid (unitsL ls d = x) := ⟨_, hide rfl⟩
      rw [HX.out] at hr hle hne1
      rw [HX1.out] at hle hr1
      rw [HX0.out] at hr0
      have HX0' : Hid (x0 = manySum ls) := hide (by rw [← HX0.out, HU0.out])
      obtain ⟨hx0, hx1⟩ := hr
      obtain ⟨hy0, hy1⟩ := hr0
      clear hok hul hr1
      go_wp2_with fail
      refine (implLotsAt_any _ _ _ _ _ HI.out hl').mono ?_
      rintro e w2 ⟨rfl, hB2⟩
      have hb2 := next hb1 hB2
      have HI2 := hide (HI.out.below hB2)
      rw [HX.out]
      clear hB2
      go_wp2_with fail
      refine (specLotsAt_any _ _ _ _ _ HI2.out hl').mono ?_
      rintro e w3 ⟨rfl, hB3⟩
      have hb3 := next hb2 hB3
      have HI3 := hide (HI2.out.below hB3)
      rw [HX.out]
      clear hB3
      go_wp2_with fail
      go_loopw [6, 7] (fun sv i wr => ∃ (k : Nat) (s : Int), k ≤ ls.length ∧ i = .int .i64 k ∧ sv = .int .i64 s ∧ Hid (s = manySum (ls.take k)) ∧ wr = w3) (fun _ i _ => ls.length - (intOf i).toNat)
      case atStart => exact ⟨0, 0, Nat.zero_le _, rfl, rfl, hide (by simp [manySum]), rfl⟩
      case round =>
        obtain ⟨k, s, hk, rfl, rfl, HS, rfl⟩ := hrel
        have hsr := manySum_range HM.out k
        rw [← HS.out] at hsr
        obtain ⟨hs0, hs1⟩ := hsr
        by_cases hlt : k < ls.length
        · obtain ⟨p, hP⟩ : ∃ p, ls[k]? = some p := ⟨_, List.getElem?_eq_getElem hlt⟩
          obtain ⟨b, off, e, hbl, hc1, -⟩ := HI3.out k p hP
          injection e with e
          injection e with e1 e2
          subst e1 e2
          rw [Nat.zero_add] at hc1
          have hp := HM.out p (List.mem_of_getElem? hP)
          have H3 : Hid (s + p.many = manySum (ls.take (k + 1))) := hide (by rw [manySum_succ hP, HS.out])
          obtain ⟨hp0, hp1, -, -⟩ := hp
          have hz : (0 : Int) ≤ k := by omega
          have hz2 : (k : Int) < ls.length := by omega
          clear hP
          go_wp2_with fail
          go_roundw
          case rel => exact ⟨k + 1, _, hlt, by go_num, rfl, H3, trivial⟩
          case measure => simp [intOf]; omega
        · have HE : Hid (s = x0) := hide (by rw [HS.out, HX0'.out, List.take_of_length_le (by omega)])
          have hle1 : decide (x1 ≤ x) = true := decide_eq_true hle
          go_wp2_with fail
          refine (implLotsAt_any _ _ _ _ _ HI3.out hl').mono ?_
          rintro e w4 ⟨rfl, hB4⟩
          have hb4 := next hb3 hB4
          have HI4 := hide (HI3.out.below hB4)
          rw [HX1.out]
          clear hB4
          go_wp2_with fail
          refine (implLotsAt_any _ _ _ _ _ HI4.out hl').mono ?_
          rintro e w5 ⟨rfl, hB5⟩
          rw [HX0.out]
          have hb5 := next hb4 hB5
          have heq : (x0 == s) = true := by simp [HE.out]
          go_wp2_with fail
          go_ret
          exact ⟨rfl, hb5⟩
end Go.Proofs.YtecmghoklleheaaDoor
