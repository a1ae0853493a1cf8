/- For all drawn bytes the law of TakeDo answers true, and its argument reads as it did.
   Conditions: none. -/
import Derived.Test.YtndcanllkmfahaaDoorLawKit
import Derived.Test.YtndcanllkmfahaaDoorLotKit
import Derived.Test.YtndcanllkmfahaaDoorDrawTake
import Derived.Test.YtndcanllkmfahaaDoorDrawUB
import Derived.Test.YtndcanllkmfahaaDoorTakeMath
namespace Go.Proofs.YtndcanllkmfahaaDoor
open Go.RowKit Go.ChangeShapes Go.WideShapes Go.ChangeAt

theorem takeDoGo_last : ∀ {l : List Lot} {t : List Int} {k : Nat} {x y : Lot}, l[k]? = some x → (takeDoGo l t)[k]? = some y → y.last = x.last
  | [], _, _, _, _, h, _ => by simp at h
  | _ :: _, [], _, _, _, _, h => by simp [takeDoGo] at h
  | a :: r, u :: s, 0, x, y, hx, hy => by
    obtain rfl : a = x := by simpa using hx
    obtain rfl := Option.some.inj (show some (⟨a.many - u, a.last⟩ : Lot) = some y from hy)
    rfl
  | a :: r, u :: s, k + 1, x, y, hx, hy => takeDoGo_last (l := r) (t := s) (k := k) (by simpa using hx) (by simpa [takeDoGo] using hy)
theorem takeDoGo_zero : ∀ {l : List Lot} {t : List Int}, t.length = l.length → (∀ x ∈ l, 0 ≤ x.last) → unitsGo 0 (takeDoGo l t) = unitsGo 0 l - sumL t
  | [], [], _, _ => rfl
  | [], _ :: _, h, _ => by simp at h
  | _ :: _, [], h, _ => by simp at h
  | x :: r, u :: s, h, hx => by
    have ih := takeDoGo_zero (l := r) (t := s) (by simpa using h) (fun y hy => hx y (by simp [hy]))
    have h0 := hx x (by simp)
    have e1 : usab ⟨x.many - u, x.last⟩ 0 = if x.last < 0 then 0 else x.many - u := rfl
    have e2 : usab x 0 = if x.last < 0 then 0 else x.many := rfl
    simp only [takeDoGo, unitsGo, sumL, ih]
    rw [e1, e2, if_neg (by omega), if_neg (by omega)]
    omega
/-- What the law says of what is left. -/
structure DoSaid (l : List Lot) (day : Int) (t : List Int) : Prop where
  len : (takeDoL l day t).length = l.length
  ok : lotsOk (takeDoL l day t) = true
  last : ∀ (k : Nat) x y, l[k]? = some x → (takeDoL l day t)[k]? = some y → y.last = x.last
  sum : unitsL (takeDoL l day t) 0 = unitsL l 0 - sumW t
  low : 0 ≤ sumW t ∧ sumW t ≤ 45
  high : 0 ≤ unitsL l 0 ∧ unitsL l 0 ≤ 45
theorem do_said {l : List Lot} {day : Int} {t : List Int} (h : takeOkL l day t = true) : DoSaid l day t := by
  obtain ⟨h1, h2, h3⟩ := takeOkL_parts h
  have h5 := lotsOk_len h1
  have hu := unitsGo_range (day := 0) (fun x hx => lotsOk_at h1 hx)
  have ht := takeGo_all h1 h2 h3
  have hs := sumL_range (hi := 9) ht
  have hO := takeDo_ok h
  refine ⟨?_, hO, fun k x y hx hy => ?_, ?_, by rw [takeOkL_sum h]; omega, by unfold unitsL; rw [if_pos h1]; omega⟩
  · rw [takeDo_is h]; exact takeDoGo_len _ _ h2
  · rw [takeDo_is h] at hy; exact takeDoGo_last hx hy
  · unfold unitsL
    rw [if_pos h1, if_pos hO, takeOkL_sum h, takeDo_is h]
    exact takeDoGo_zero h2 (fun x hx => (lotsOk_at h1 hx).2.2.1)

set_option maxHeartbeats 1000000 in
theorem sameLots_same (A A' : Option Addr) (c c' : Nat) (ls : List Lot) (w : World) (h1 : LotsAt w A ls) (h2 : LotsAt w A' ls) (hl : ls.length ≤ 1048576) :
    Calls Tryd.prog 20 #[.slice A ls.length c, .slice A' ls.length c'] w fun e w' => e = .returned (.bool true) ∧ Below w.heap.size w w' := by
  have he : ((ls.length : Int) != ls.length) = false := by simp
  go_enter Tryd.func20, Tryd.ntmps20
  go_wp2_with fail
  go_loopw [5] (fun i wr => ∃ k : Nat, k ≤ ls.length ∧ i = .int .i64 k ∧ Below w.heap.size w wr) (fun i _ => ls.length - (intOf i).toNat)
  case atStart => exact ⟨0, Nat.zero_le _, rfl, Below.refl _ _⟩
  case round =>
    obtain ⟨k, hk, rfl, hb⟩ := hrel
    by_cases hlt : k < ls.length
    · obtain ⟨b, off, rfl, hbl, hc1, hc2⟩ := (h1.below hb) k ls[k] (List.getElem?_eq_getElem hlt)
      obtain ⟨b', off', rfl, hbl', hc1', hc2'⟩ := (h2.below hb) k ls[k] (List.getElem?_eq_getElem hlt)
      generalize ls[k] = p at *
      have hz : (0 : Int) ≤ k := by omega
      have hz2 : (k : Int) < ls.length := by omega
      go_wp2_with fail
      go_quiet (fail)
      go_wp2_with fail
      go_roundw
      case rel => exact ⟨k + 1, hlt, by go_num, below_drewN hb _⟩
      case measure => simp [intOf]; omega
    · have hz2 : ¬ (k : Int) < ls.length := by omega
      go_wp2_with fail
      go_ret
      exact ⟨rfl, by go_grown⟩

def DrawnTakeTakeDo (w : World) (e : Ending) (w' : World) : Prop := ∃ (ls : List Lot) (g c : Nat) (d : Int) (t : List Int) (A : Option Addr) (c2 : Nat), e = .returned (.tuple #[.slice (some ⟨g, 0, none⟩) ls.length c, .int .i64 d, .slice A t.length c2]) ∧ LotsAt w' (some ⟨g, 0, none⟩) ls ∧ ls.length ≤ 6 ∧ IntsAt w' A t ∧ t.length ≤ 7 ∧ -1 ≤ d ∧ d ≤ 6 ∧ Below w.heap.size w w'

set_option maxHeartbeats 1000000 in
theorem drawTakeDo_any (A : Option Addr) (c m : Nat) (w : World) (hB : BytesIn w A m) (hm : m ≤ 9223372036854775807) (hc : m ≤ c) (hc2 : c ≤ 9223372036854775807) :
    Calls Tryd.prog 17 #[.slice A m c] w (DrawnTakeTakeDo w) := by
  go_enter Tryd.func17, Tryd.ntmps17
  go_wp2_with fail
  refine (open_any A c m w hB hm hc hc2).mono ?_
  rintro e w1 ⟨rfl, hR1, hb1⟩
  have hz1 := hb1.size
  go_wp2_with fail
  refine (l20Take_any w.heap.size 0 _ hR1 (by omega)).mono ?_
  rintro e w2 ⟨ls, g, c2, d, t, A2, c3, rfl, hS2, hl, hT2, ht, hd0, hd1, hg2⟩
  have hb2 : Below w.heap.size w w2 := hb1.grown hg2 hz1 (fun j hj => by injection hj with hj; omega)
  have HI := hide hS2.lots
  have HT := hide hT2.ints
  clear hS2 hT2 hg2
  go_wp2_with fail
  refine bodyPost_ret (results_tmp3 rfl _ _ _) rfl ⟨ls, g, c2, d, t, A2, c3, rfl, HI.out, hl, HT.out, ht, hd0, hd1, hb2⟩

set_option maxRecDepth 100000 in
set_option maxHeartbeats 4000000 in
theorem lawTakeDo_any (A : Option Addr) (c m : Nat) (w : World) (hB : BytesIn w A m) (hc : m ≤ c) (hc2 : c ≤ 9223372036854775807) :
    Calls Tryd.prog 4 #[.slice A m c] w fun e w' => e = .returned (.bool true) ∧ Below w.heap.size w w' := by
  by_cases hlen : (1048576 : Int) < m
  · go_enter Tryd.func4, Tryd.ntmps4
    go_wp2_with fail
    go_ret
    exact ⟨rfl, by go_grown⟩
  · go_enter Tryd.func4, Tryd.ntmps4
    go_wp2_with fail
    refine (drawTakeDo_any A c m w hB (by omega) hc hc2).mono ?_
    rintro e w1 ⟨ls, g, c1, d, t, A2, c2, rfl, hI, hl, hT, htl, -, -, hb1⟩
    have hl' : ls.length ≤ 1048576 := by omega
    have ht' : t.length ≤ 1048576 := by omega
    have HI := hide hI
    have HT := hide hT
    clear hI hT
    obtain ⟨v, HV⟩ : ∃ v, Hid (takeOkL ls d t = v) := ⟨_, hide rfl⟩
    have hbb : (v != v) = false := by simp
    obtain ⟨X, HX⟩ : ∃ X, Hid (takeDoL ls d t = X) := ⟨_, hide rfl⟩
    have hXl : X.length ≤ 1048576 := by rw [← HX.out]; exact Nat.le_trans (takeDoL_len _ _ _) hl'
    go_wp2_with fail
    refine (implTakeDo_any _ _ _ _ _ _ _ _ HI.out hl' HT.out ht').mono ?_
    rintro e w2 ⟨u, rfl, hu, hB2⟩
    rw [HV.out]
    rw [HX.out] at hu
    obtain ⟨B2, k2, rfl, hI2⟩ := hu.form
    have hb2 := next hb1 hB2
    have HI2 := hide (HI.out.below hB2)
    have HT2 := hide (HT.out.below hB2)
    have HX2 := hide hI2
    clear hB2 hu hI2 HI HT
    go_wp2_with fail
    refine (specTakeDo_any _ _ _ _ _ _ _ _ HI2.out hl' HT2.out ht').mono ?_
    rintro e w3 ⟨u, rfl, hu, hB3⟩
    rw [HV.out]
    rw [HX.out] at hu
    obtain ⟨B3, k3, rfl, hI3⟩ := hu.form
    have hb3 := next hb2 hB3
    have HI3 := hide (HI2.out.below hB3)
    have HT3 := hide (HT2.out.below hB3)
    have HX3 := hide (HX2.out.below hB3)
    have HY3 := hide hI3
    clear hB3 hu hI3 HI2 HT2 HX2
    go_wp2_with fail
    refine (sameLots_same _ _ _ _ _ _ HX3.out HY3.out hXl).mono ?_
    rintro e w4 ⟨rfl, hB4⟩
    have hb4 := next hb3 hB4
    have HI4 := hide (HI3.out.below hB4)
    have HT4 := hide (HT3.out.below hB4)
    have HX4 := hide (HX3.out.below hB4)
    clear hB4 HI3 HT3 HX3 HY3
    cases v with
    | false =>
      have hX0 : X = [] := by rw [← HX.out]; unfold takeDoL; rw [if_neg (by rw [HV.out]; decide)]
      subst hX0
      go_wp2_with fail
      refine (alive_any _).mono ?_
      rintro e w5 ⟨rfl, hB5⟩
      go_wp2_with fail
      go_ret
      exact ⟨rfl, next hb4 hB5⟩
    | true =>
      have hS := do_said HV.out
      have hln := hS.len
      have hok := hS.ok
      have hlast := hS.last
      have hsum := hS.sum
      rw [HX.out] at hln hok hlast hsum
      obtain ⟨s, hs⟩ : ∃ s, sumW t = s := ⟨_, rfl⟩
      obtain ⟨u, hu⟩ : ∃ u, unitsL ls 0 = u := ⟨_, rfl⟩
      have hlow := hS.low
      have hhigh := hS.high
      rw [hs] at hlow hsum
      rw [hu] at hhigh hsum
      obtain ⟨hs0, hs1⟩ := hlow
      obtain ⟨hu0, hu1⟩ := hhigh
      have HS := hide hs
      have HU := hide hu
      have HLN := hide hln
      have HOK := hide hok
      have HLA := hide hlast
      have HSM := hide hsum
      have hxl1 : X.length ≤ ls.length := by rw [hln]; exact Nat.le_refl _
      have heq : (u - s == u - s) = true := by simp
      clear hS hln hok hlast hsum hs hu
      go_wp2_with fail
      go_loopw [10] (fun iv wq => ∃ k : Nat, k ≤ X.length ∧ iv = .int .i64 k ∧ Below w4.heap.size w4 wq) (fun iv _ => X.length - (intOf iv).toNat)
      case atStart => exact ⟨0, Nat.zero_le _, rfl, Below.refl _ _⟩
      case round =>
        obtain ⟨k, hk, rfl, hd2⟩ := hrel
        have hbq := next hb4 hd2
        by_cases hltk : k < X.length
        · have hkl : k < ls.length := by omega
          obtain ⟨x, hx⟩ : ∃ x, ls[k]? = some x := ⟨_, List.getElem?_eq_getElem hkl⟩
          obtain ⟨y, hy⟩ : ∃ y, X[k]? = some y := ⟨_, List.getElem?_eq_getElem hltk⟩
          have hxy := HLA.out k x y hx hy
          obtain ⟨b, off, rfl, hbl, -, hc1⟩ := (HX4.out.below hd2) k y hy
          obtain ⟨b2, off2, hDD, hbl2, -, hc3⟩ := (HI4.out.below hd2) k x hx
          injection hDD with hDD
          injection hDD with e1 e2
          subst e1 e2
          rw [Nat.zero_add] at hc3
          rw [hxy] at hc1
          have hk0 : (0 : Int) ≤ k := by omega
          have hk1 : (k : Int) < X.length := by omega
          have hk2 : (k : Int) < ls.length := by omega
          have hne : (x.last != x.last) = false := by simp
          clear hx hy hxy
          go_wp2_with fail
          go_quiet (fail)
          go_wp2_with fail
          go_roundw
          case rel => exact ⟨k + 1, hltk, by go_num, below_drewN hd2 _⟩
          case measure => simp [intOf]; omega
        · have hk1 : ¬ (k : Int) < X.length := by omega
          have HI5 := hide (HI4.out.below hd2)
          have HT5 := hide (HT4.out.below hd2)
          have HX5 := hide (HX4.out.below hd2)
          go_wp2_with fail
          refine (implLotsValid_any _ _ _ _ HX5.out hXl).mono ?_
          rintro e w6 ⟨rfl, hB6⟩
          rw [HOK.out]
          have hb6 := next hbq hB6
          have HI6 := hide (HI5.out.below hB6)
          have HT6 := hide (HT5.out.below hB6)
          have HX6 := hide (HX5.out.below hB6)
          clear hB6
          go_wp2_with fail
          refine (implLotsAt_any _ _ _ _ _ HX6.out hXl).mono ?_
          rintro e w7 ⟨rfl, hB7⟩
          rw [HSM.out]
          have hb7 := next hb6 hB7
          have HI7 := hide (HI6.out.below hB7)
          have HT7 := hide (HT6.out.below hB7)
          clear hB7
          go_wp2_with fail
          refine (implLotsAt_any _ _ _ _ _ HI7.out hl').mono ?_
          rintro e w8 ⟨rfl, hB8⟩
          rw [HU.out]
          have hb8 := next hb7 hB8
          have HT8 := hide (HT7.out.below hB8)
          clear hB8
          go_wp2_with fail
          refine (lawSum_any _ _ _ _ HT8.out ht').mono ?_
          rintro e w9 ⟨rfl, rfl⟩
          rw [HS.out]
          go_wp2_with fail
          go_ret
          exact ⟨rfl, hb8⟩
end Go.Proofs.YtndcanllkmfahaaDoor
