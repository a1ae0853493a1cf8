/- For all drawn bytes the law of TakeOk answers true, and its argument reads as it did.
   Conditions: none. -/
import Derived.Test.YtndcanllkmfahaaDoorLawKit
import Derived.Test.YtndcanllkmfahaaDoorLotKit
import Derived.Test.YtndcanllkmfahaaDoorDrawTake
import Derived.Test.YtndcanllkmfahaaDoorDrawUB
import Derived.Test.YtndcanllkmfahaaDoorTakeMath
namespace Go.Proofs.YtndcanllkmfahaaDoor
open Go.RowKit Go.ChangeShapes Go.WideShapes Go.ChangeAt

theorem takeGo_less' {day : Int} : ∀ {l : List Lot} {t : List Int} {k : Nat}, (∀ x ∈ l, 0 ≤ usab x day) → takeGo day l t = true → takeGo day l (t.set k 0) = true
  | [], _, _, _, _ => by unfold takeGo; rfl
  | _ :: _, [], _, _, h => h
  | x :: r, u :: s, 0, hn, h => by
    unfold takeGo at h ⊢
    simp only [Bool.and_eq_true] at h
    simp only [List.set_cons_zero, Bool.and_eq_true]
    exact ⟨inR_iff.2 ⟨Int.le_refl _, hn x (by simp)⟩, h.2⟩
  | x :: r, u :: s, k + 1, hn, h => by
    unfold takeGo at h ⊢
    simp only [Bool.and_eq_true] at h
    simp only [List.set_cons_succ, Bool.and_eq_true]
    exact ⟨h.1, takeGo_less' (fun y hy => hn y (by simp [hy])) h.2⟩
theorem takeOk_less {l : List Lot} {day : Int} {t : List Int} {k : Nat} (h : takeOkL l day t = true) : takeOkL l day (t.set k 0) = true := by
  obtain ⟨h1, h2, h3⟩ := takeOkL_parts h
  unfold takeOkL
  rw [h1, List.length_set, decide_eq_true h2, takeGo_less' (fun x hx => (usab_range (lotsOk_at h1 hx) day).1) h3]
  rfl
theorem takeGo_sum {day : Int} : ∀ {l : List Lot} {t : List Int}, t.length = l.length → takeGo day l t = true → sumL t ≤ unitsGo day l
  | [], [], _, _ => Int.le_refl _
  | [], _ :: _, h, _ => by simp at h
  | _ :: _, [], h, _ => by simp at h
  | x :: r, u :: s, hl, h => by
    unfold takeGo at h
    simp only [Bool.and_eq_true, inR_iff] at h
    have := takeGo_sum (l := r) (t := s) (by simpa using hl) h.2
    simp only [sumL, unitsGo]
    omega
theorem takeOk_sum {l : List Lot} {day : Int} {t : List Int} (h : takeOkL l day t = true) : sumW t ≤ unitsL l day := by
  obtain ⟨h1, h2, h3⟩ := takeOkL_parts h
  rw [takeOkL_sum h]
  unfold unitsL
  rw [if_pos h1]
  exact takeGo_sum h2 h3

def DrawnTakeTakeOk (w : World) (e : Ending) (w' : World) : Prop := ∃ (ls : List Lot) (g c : Nat) (d : Int) (t : List Int) (A : Option Addr) (c2 : Nat), e = .returned (.tuple #[.slice (some ⟨g, 0, none⟩) ls.length c, .int .i64 d, .slice A t.length c2]) ∧ LotsAt w' (some ⟨g, 0, none⟩) ls ∧ ls.length ≤ 6 ∧ IntsAt w' A t ∧ t.length ≤ 7 ∧ -1 ≤ d ∧ d ≤ 6 ∧ Below w.heap.size w w'

set_option maxHeartbeats 1000000 in
theorem drawTakeOk_any (A : Option Addr) (c m : Nat) (w : World) (hB : BytesIn w A m) (hm : m ≤ 9223372036854775807) (hc : m ≤ c) (hc2 : c ≤ 9223372036854775807) :
    Calls Tryd.prog 11 #[.slice A m c] w (DrawnTakeTakeOk w) := by
  go_enter Tryd.func11, Tryd.ntmps11
  go_wp2_with fail
  refine (open_any A c m w hB hm hc hc2).mono ?_
  rintro e w1 ⟨rfl, hR1, hb1⟩
  have hz1 := hb1.size
  go_wp2_with fail
  refine (l20Take_any w.heap.size 0 _ hR1 (by omega)).mono ?_
  rintro e w2 ⟨ls, g, c2, d, t, A2, c3, rfl, hS2, hl, hT2, ht, hd0, hd1, hg2⟩
  have hb2 : Below w.heap.size w w2 := hb1.grown hg2 hz1 (fun j hj => by injection hj with hj; omega)
  have HI := hide hS2.lots
  have HT := hide hT2.ints
  clear hS2 hT2 hg2
  go_wp2_with fail
  refine bodyPost_ret (results_tmp3 rfl _ _ _) rfl ⟨ls, g, c2, d, t, A2, c3, rfl, HI.out, hl, HT.out, ht, hd0, hd1, hb2⟩

theorem implTakeOk_at (A B : Option Addr) (c d n : Nat) (l : List Lot) (day : Int) (t : List Int) (v : Bool) (w : World) (hn : t.length = n) (hv : Hid (takeOkL l day t = v)) (hA : LotsAt w A l) (hl : l.length ≤ 1048576) (hB : IntsAt w B t) (hw : n ≤ 1048576) :
    Calls Tryd.prog 12 #[.slice A l.length c, .int .i64 day, .slice B n d] w fun e w' => e = .returned (.bool v) ∧ Below w.heap.size w w' := by
  subst hn
  have := implTakeOk_any A B c d l day t w hA hl hB hw
  rwa [hv.out] at this

set_option maxRecDepth 100000 in
set_option maxHeartbeats 4000000 in
theorem lawTakeOk_any (A : Option Addr) (c m : Nat) (w : World) (hB : BytesIn w A m) (hc : m ≤ c) (hc2 : c ≤ 9223372036854775807) :
    Calls Tryd.prog 3 #[.slice A m c] w fun e w' => e = .returned (.bool true) ∧ Below w.heap.size w w' := by
  by_cases hlen : (1048576 : Int) < m
  · go_enter Tryd.func3, Tryd.ntmps3
    go_wp2_with fail
    go_ret
    exact ⟨rfl, by go_grown⟩
  · go_enter Tryd.func3, Tryd.ntmps3
    go_wp2_with fail
    refine (drawTakeOk_any A c m w hB (by omega) hc hc2).mono ?_
    rintro e w1 ⟨ls, g, c1, d, t, A2, c2, rfl, hI, hl, hT, htl, -, -, hb1⟩
    have hl' : ls.length ≤ 1048576 := by omega
    have ht' : t.length ≤ 1048576 := by omega
    have HI := hide hI
    have HT := hide hT
    clear hI hT
    obtain ⟨v, HV⟩ : ∃ v, Hid (takeOkL ls d t = v) := ⟨_, hide rfl⟩
    have hbb : (v != v) = false := by simp
    go_wp2_with fail
    refine (implTakeOk_any _ _ _ _ _ _ _ _ HI.out hl' HT.out ht').mono ?_
    rintro e w2 ⟨rfl, hB2⟩
    rw [HV.out]
    have hb2 := next hb1 hB2
    have HI2 := hide (HI.out.below hB2)
    have HT2 := hide (HT.out.below hB2)
    clear hB2 HI HT
    go_wp2_with fail
    refine (specTakeOk_any _ _ _ _ _ _ _ _ HI2.out hl' HT2.out ht').mono ?_
    rintro e w3 ⟨rfl, hB3⟩
    rw [HV.out]
    have hb3 := next hb2 hB3
    have HI3 := hide (HI2.out.below hB3)
    have HT3 := hide (HT2.out.below hB3)
    clear hB3 HI2 HT2
    cases v with
    | false =>
      go_wp2_with fail
      refine (alive_any _).mono ?_
      rintro e w5 ⟨rfl, hB5⟩
      go_wp2_with fail
      go_ret
      exact ⟨rfl, next hb3 hB5⟩
    | true =>
      obtain ⟨s, HS⟩ : ∃ s, Hid (sumW t = s) := ⟨_, hide rfl⟩
      obtain ⟨u, HU⟩ : ∃ u, Hid (unitsL ls d = u) := ⟨_, hide rfl⟩
      have hsu : s ≤ u := by rw [← HS.out, ← HU.out]; exact takeOk_sum HV.out
      go_wp2_with fail
      go_loopw [7] (fun iv wq => ∃ k : Nat, k ≤ t.length ∧ iv = .int .i64 k ∧ Below w3.heap.size w3 wq) (fun iv _ => t.length - (intOf iv).toNat)
      case atStart => exact ⟨0, Nat.zero_le _, rfl, Below.refl _ _⟩
      case round =>
        obtain ⟨k, hk, rfl, hd2⟩ := hrel
        have hbq := next hb3 hd2
        have hszq := hbq.size
        by_cases hltk : k < t.length
        · obtain ⟨q, hq⟩ : ∃ q, t[k]? = some q := ⟨_, List.getElem?_eq_getElem hltk⟩
          obtain ⟨b, off, rfl, hbl, -⟩ := HT3.out k q hq
          have HQ := hide hq
          have HL0 : Hid (IntSl (wr.alloc (.cells #[] 3)) wr.heap.size (.slice (some ⟨wr.heap.size, 0, none⟩) 0 0) []) := hide (World.ownsRow_lit wr #[] 0 (Nat.le_refl _) (by unfold maxLen; omega) rfl)
          have HIA : Hid (IntsAt (wr.alloc (.cells #[] 3)) (some ⟨b, off, none⟩) t) := hide ((HT3.out.below hd2).below (by go_grown))
          have HLQ := hide (HI3.out.below hd2)
          have hk0 : (0 : Int) ≤ k := by omega
          have hk1 : (k : Int) < t.length := by omega
          clear hq
          go_wp2_with (at_builtin; refine wpList_wanted (by rfl) (wp_copy_int _ _ (by rfl) wr.heap.size (.slice (some ⟨wr.heap.size, 0, none⟩) 0 0) (by rfl) HL0.out (by simp) ⟨b, off, none⟩ t.length c2 t rfl (by rfl) HIA.out ht' (by simp) ?_); intro g7 cap7 w7 hown hgrow; have HO7 := hide hown; have HB7 : Hid (Below wr.heap.size wr w7) := hide (below_ownL hgrow); have hc8 := IntSl.cellAt HO7.out HQ.out; have hf8 := IntSl.frozenAt HO7.out k; clear hown hgrow)
          have hS8 := IntSl.store HO7.out k 0
          have hG8 := IntSl.grownSet HO7.out k 0
          obtain ⟨L8, HL8⟩ : ∃ L8, Hid (t.set k 0 = L8) := ⟨_, hide rfl⟩
          rw [HL8.out] at hS8
          have HM8 := hide (IntSl.ints hS8)
          have HB8 : Hid (Below wr.heap.size wr (w7.setCell ⟨g7, k, none⟩ (.int .i64 0))) := hide (HB7.out.grown hG8 HB7.out.size (fun j hj => by injection hj with hj; have hlt := (World.ownsRow.lt HO7.out g7 rfl).1; omega))
          have HI8 := hide (HLQ.out.below HB8.out)
          have HL8N : Hid (L8.length = t.length) := hide (by rw [← HL8.out, List.length_set])
          have HOK8 : Hid (takeOkL ls d L8 = true) := hide (by rw [← HL8.out]; exact takeOk_less HV.out)
          clear hS8 hG8 hc8 hf8
          refine (implTakeOk_at _ _ _ _ _ _ _ L8 true _ HL8N.out HOK8 HI8.out hl' HM8.out ht').mono ?_
          rintro e w9 ⟨rfl, hB9⟩
          have hd9 := next hd2 (next HB8.out hB9)
          go_wp2_with fail
          go_roundw
          case rel => exact ⟨k + 1, hltk, by go_num, hd9⟩
          case measure => simp [intOf]; omega
        · have hk1 : ¬ (k : Int) < t.length := by omega
          have HI8 := hide (HI3.out.below hd2)
          have HT8 := hide (HT3.out.below hd2)
          go_wp2_with fail
          refine (lawSum_any _ _ _ _ HT8.out ht').mono ?_
          rintro e w9 ⟨rfl, rfl⟩
          rw [HS.out]
          go_wp2_with fail
          refine (implLotsAt_any _ _ _ _ _ HI8.out hl').mono ?_
          rintro e w10 ⟨rfl, hB10⟩
          rw [HU.out]
          go_wp2_with fail
          go_ret
          exact ⟨rfl, next hbq hB10⟩
end Go.Proofs.YtndcanllkmfahaaDoor
