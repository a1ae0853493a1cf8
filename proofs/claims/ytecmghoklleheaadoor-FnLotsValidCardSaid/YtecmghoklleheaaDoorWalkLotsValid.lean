/- For all drawn bytes the law of LotsValid answers true, and its argument reads as it did.
   Conditions: none. -/
import Derived.Test.YtecmghoklleheaaDoorLawKit
import Derived.Test.YtecmghoklleheaaDoorDrawSt
import Derived.Test.YtecmghoklleheaaDoorGuarded
namespace Go.Proofs.YtecmghoklleheaaDoor
open Go.RowKit Go.ChangeShapes Go.WideShapes Go.ChangeAt

theorem lotsOk_tail {x : Lot} {r : List Lot} (h : lotsOk (x :: r) = true) : lotsOk r = true := by
  unfold lotsOk at h ⊢
  simp only [Bool.and_eq_true, decide_eq_true_eq, List.length_cons, List.all_cons] at h ⊢
  exact ⟨by omega, h.2.2⟩

theorem lotsOk_wrong (l : List Lot) : lotsOk (l ++ [⟨-1, 0⟩]) = false := by
  unfold lotsOk
  rw [List.all_append]
  have : ([⟨-1, 0⟩] : List Lot).all lotOk = false := by decide
  rw [this]
  simp

theorem implLotsValid_at (A : Option Addr) (c n : Nat) (l : List Lot) (b : Bool) (w : World) (hn : l.length = n) (hb : Hid (lotsOk l = b)) (hA : LotsAt w A l) (hl : n ≤ 1048576) :
    Calls Tryd.prog 17 #[.slice A n c] w fun e w' => e = .returned (.bool b) ∧ Below w.heap.size w w' := by
  subst hn
  have := implLotsValid_any A c l w hA hl
  rwa [hb.out] at this

theorem below_push {w W wa : World} {o : Obj} {g n c lo : Nat} (hb : Below w.heap.size w W) (hg : (W.alloc o).grownBy wa (Value.slice (some ⟨g, 0, none⟩) n c).ownBlock) (hlo : lo ≤ g) (hw : w.heap.size ≤ lo) : Below w.heap.size w wa :=
  (hb.alloc hb.size _).grown hg (by have := hb.size; simp; omega) (fun j hj => by
    have hj : some g = some j := hj
    injection hj with hj
    omega)

set_option maxRecDepth 100000 in
set_option maxHeartbeats 4000000 in
theorem lawLotsValid_any (A : Option Addr) (c m : Nat) (w : World) (hB : BytesIn w A m) (hc : m ≤ c) (hc2 : c ≤ 9223372036854775807) :
    Calls Tryd.prog 3 #[.slice A m c] w fun e w' => e = .returned (.bool true) ∧ Below w.heap.size w w' := by
  by_cases hlen : (1048576 : Int) < m
  · go_enter Tryd.func3, Tryd.ntmps3
    go_wp2_with fail
    go_ret
    exact ⟨rfl, by go_grown⟩
  · go_enter Tryd.func3, Tryd.ntmps3
    go_wp2_with fail
    refine (drawLotsValid_any A c m w hB (by omega) hc hc2).mono ?_
    rintro e w1 ⟨ls, g, c1, rfl, hS, hl, hb1⟩
    have hl' : ls.length ≤ 1048576 := by omega
    have HI := hide hS.lots
    have hcap := hS.cap
    have hc0 : ls.length ≤ c1 := hcap.2.1
    have hc1' : c1 ≤ 9223372036854775807 := by have := hcap.2.2.1; unfold maxLen at this; omega
    clear hS hcap
    obtain ⟨v, HV⟩ : ∃ v, Hid (lotsOk ls = v) := ⟨_, hide rfl⟩
    have hbb : (v != v) = false := by simp
    go_wp2_with fail
    refine (implLotsValid_any _ _ _ _ HI.out hl').mono ?_
    rintro e w2 ⟨rfl, hB2⟩
    have hb2 := next hb1 hB2
    have HI2 := hide (HI.out.below hB2)
    rw [HV.out]
    clear hB2 HI
    go_wp2_with fail
    refine (specLotsValid_any _ _ _ _ HI2.out hl').mono ?_
    rintro e w3 ⟨rfl, hB3⟩
    have hb3 := next hb2 hB3
    have HI3 := hide (HI2.out.below hB3)
    rw [HV.out]
    clear hB3 HI2
    cases v with
    | false =>
      have hzW := hb3.size
      have HO : Hid (LotSl (w3.alloc (.cells #[] 27)) w3.heap.size (.slice (some ⟨w3.heap.size, 0, none⟩) 0 0) []) := hide (World.ownsRow_lit w3 #[] 0 (Nat.le_refl _) (by unfold maxLen; omega) rfl)
      have HIA := hide (HI3.out.below (w' := w3.alloc (.cells #[] 27)) (by go_grown))
      go_wp2_with (first | (at_builtin; refine wpList_wanted (by rfl) (wp_push_lot _ _ (by rfl) w3.heap.size (.slice (some ⟨g1, 0, none⟩) ls.length cap1) ls (by rfl) (World.ownsRow.alloc HA1.out _) wa.heap.size ⟨-1, 0⟩ (by rfl) (heap_alloc_new wa _) (by omega) (by simp at hza; simp; omega) ?_); intro g2 cap2 wb hown2 hgrow2; have HI9 := hide hown2.lots; have hbb2 := below_push hba hgrow2 (Nat.le_refl _) (Nat.le_trans hzW hg1); clear hown2 hgrow2) | (at_builtin; refine wpList_wanted (by rfl) (wp_copy_lot _ _ (by rfl) w3.heap.size (.slice (some ⟨w3.heap.size, 0, none⟩) 0 0) (by rfl) HO.out (by simp) ⟨g, 0, none⟩ ls.length c1 ls rfl (by rfl) HIA.out (by omega) (by simp) ?_); intro g1 cap1 wa hown1 hgrow1; have HA1 : Hid (LotSl wa w3.heap.size (.slice (some ⟨g1, 0, none⟩) ls.length cap1) ls) := hide hown1; have hba := below_push hb3 hgrow1 (Nat.le_refl _) hzW; have hza := hgrow1.size; have hza4 := hba.size; have hg1 := (HA1.out.cap).2.2.2.1; clear hown1 hgrow1))
      refine (implLotsValid_at _ _ _ (ls ++ [⟨-1, 0⟩]) false _ (by simp) (hide (lotsOk_wrong ls)) HI9.out (by first | omega | (simp <;> omega))).mono ?_
      rintro e wc ⟨rfl, hBc⟩
      have hbc := next hbb2 hBc
      go_wp2_with fail
      refine (implLotsValid_at _ _ _ [] true _ rfl (hide rfl) (LotsAt.nil _ _) (by decide)).mono ?_
      rintro e wd ⟨rfl, hBd⟩
      have hbd := next hbc hBd
      go_wp2_with fail
      refine (alive_any _).mono ?_
      rintro e we ⟨rfl, hBe⟩
      go_wp2_with fail
      go_ret
      exact ⟨rfl, next hbd hBe⟩
    | true =>
      by_cases hl0 : ls.length = 0
      · have hle : ((ls.length : Int) == 0) = true := by simp [hl0]
        clear hl0
        have hzW := hb3.size
        have HO : Hid (LotSl (w3.alloc (.cells #[] 27)) w3.heap.size (.slice (some ⟨w3.heap.size, 0, none⟩) 0 0) []) := hide (World.ownsRow_lit w3 #[] 0 (Nat.le_refl _) (by unfold maxLen; omega) rfl)
        have HIA := hide (HI3.out.below (w' := w3.alloc (.cells #[] 27)) (by go_grown))
        go_wp2_with (first | (at_builtin; refine wpList_wanted (by rfl) (wp_push_lot _ _ (by rfl) w3.heap.size (.slice (some ⟨g1, 0, none⟩) ls.length cap1) ls (by rfl) (World.ownsRow.alloc HA1.out _) wa.heap.size ⟨-1, 0⟩ (by rfl) (heap_alloc_new wa _) (by omega) (by simp at hza; simp; omega) ?_); intro g2 cap2 wb hown2 hgrow2; have HI9 := hide hown2.lots; have hbb2 := below_push hba hgrow2 (Nat.le_refl _) (Nat.le_trans hzW hg1); clear hown2 hgrow2) | (at_builtin; refine wpList_wanted (by rfl) (wp_copy_lot _ _ (by rfl) w3.heap.size (.slice (some ⟨w3.heap.size, 0, none⟩) 0 0) (by rfl) HO.out (by simp) ⟨g, 0, none⟩ ls.length c1 ls rfl (by rfl) HIA.out (by omega) (by simp) ?_); intro g1 cap1 wa hown1 hgrow1; have HA1 : Hid (LotSl wa w3.heap.size (.slice (some ⟨g1, 0, none⟩) ls.length cap1) ls) := hide hown1; have hba := below_push hb3 hgrow1 (Nat.le_refl _) hzW; have hza := hgrow1.size; have hza4 := hba.size; have hg1 := (HA1.out.cap).2.2.2.1; clear hown1 hgrow1))
        refine (implLotsValid_at _ _ _ (ls ++ [⟨-1, 0⟩]) false _ (by simp) (hide (lotsOk_wrong ls)) HI9.out (by first | omega | (simp <;> omega))).mono ?_
        rintro e wc ⟨rfl, hBc⟩
        have hbc := next hbb2 hBc
        go_wp2_with fail
        refine (implLotsValid_at _ _ _ [] true _ rfl (hide rfl) (LotsAt.nil _ _) (by decide)).mono ?_
        rintro e wd ⟨rfl, hBd⟩
        have hbd := next hbc hBd
        go_wp2_with fail
        refine (alive_any _).mono ?_
        rintro e we ⟨rfl, hBe⟩
        go_wp2_with fail
        go_ret
        exact ⟨rfl, next hbd hBe⟩
      · have hle : ((ls.length : Int) == 0) = false := by simp; intro h; rw [h] at hl0; exact hl0 rfl
        have h1L : (1 : Int) ≤ ls.length := by omega
        have h1c : (1 : Int) ≤ c1 := by omega
        obtain ⟨x, r, HXR⟩ : ∃ x r, Hid (ls = x :: r) := by
          cases ls with
          | nil => exact absurd rfl hl0
          | cons x r => exact ⟨x, r, hide rfl⟩
        have HRL : Hid (r.length = ls.length - 1) := hide (by rw [HXR.out]; rfl)
        have HRO : Hid (lotsOk r = true) := hide (lotsOk_tail (by rw [← HXR.out]; exact HV.out))
        have HRT : Hid (LotsAt w3 (some ⟨g, 2, none⟩) r) := hide (LotsAt.tail (off := 0) (x := x) (by rw [← HXR.out]; exact HI3.out))
        have HRN : Hid (c1 = 1 → r = []) := hide (fun h => List.eq_nil_of_length_eq_zero (by rw [HRL.out]; omega))
        clear hl0
        by_cases hc11 : c1 = 1
        · obtain rfl : c1 = 1 := hc11
          have hL1 : ls.length - 1 = 0 := by omega
          have HR0 : Hid (LotsAt w3 (some ⟨g, 0, none⟩) r) := hide (by rw [HRN.out rfl]; exact LotsAt.nil _ _)
          go_wp2_with fail
          refine (implLotsValid_at _ _ _ r true _ (by rw [HRL.out]; omega) HRO HR0.out (by omega)).mono ?_
          rintro e w4 ⟨rfl, hB4⟩
          have hb4 := next hb3 hB4
          have HI4 := hide (HI3.out.below hB4)
          clear hB4 HRN HR0
          have hzW := hb4.size
          have HO : Hid (LotSl (w4.alloc (.cells #[] 27)) w4.heap.size (.slice (some ⟨w4.heap.size, 0, none⟩) 0 0) []) := hide (World.ownsRow_lit w4 #[] 0 (Nat.le_refl _) (by unfold maxLen; omega) rfl)
          have HIA := hide (HI4.out.below (w' := w4.alloc (.cells #[] 27)) (by go_grown))
          go_wp2_with (first | (at_builtin; refine wpList_wanted (by rfl) (wp_push_lot _ _ (by rfl) w4.heap.size (.slice (some ⟨g1, 0, none⟩) ls.length cap1) ls (by rfl) (World.ownsRow.alloc HA1.out _) wa.heap.size ⟨-1, 0⟩ (by rfl) (heap_alloc_new wa _) (by omega) (by simp at hza; simp; omega) ?_); intro g2 cap2 wb hown2 hgrow2; have HI9 := hide hown2.lots; have hbb2 := below_push hba hgrow2 (Nat.le_refl _) (Nat.le_trans hzW hg1); clear hown2 hgrow2) | (at_builtin; refine wpList_wanted (by rfl) (wp_copy_lot _ _ (by rfl) w4.heap.size (.slice (some ⟨w4.heap.size, 0, none⟩) 0 0) (by rfl) HO.out (by simp) ⟨g, 0, none⟩ ls.length 1 ls rfl (by rfl) HIA.out (by omega) (by simp) ?_); intro g1 cap1 wa hown1 hgrow1; have HA1 : Hid (LotSl wa w4.heap.size (.slice (some ⟨g1, 0, none⟩) ls.length cap1) ls) := hide hown1; have hba := below_push hb4 hgrow1 (Nat.le_refl _) hzW; have hza := hgrow1.size; have hza4 := hba.size; have hg1 := (HA1.out.cap).2.2.2.1; clear hown1 hgrow1))
          refine (implLotsValid_at _ _ _ (ls ++ [⟨-1, 0⟩]) false _ (by simp) (hide (lotsOk_wrong ls)) HI9.out (by first | omega | (simp <;> omega))).mono ?_
          rintro e wc ⟨rfl, hBc⟩
          have hbc := next hbb2 hBc
          go_wp2_with fail
          refine (implLotsValid_at _ _ _ [] true _ rfl (hide rfl) (LotsAt.nil _ _) (by decide)).mono ?_
          rintro e wd ⟨rfl, hBd⟩
          have hbd := next hbc hBd
          go_wp2_with fail
          refine (alive_any _).mono ?_
          rintro e we ⟨rfl, hBe⟩
          go_wp2_with fail
          go_ret
          exact ⟨rfl, next hbd hBe⟩
        · have hc3 : (1 : Int) < c1 := by omega
          go_wp2_with fail
          refine (implLotsValid_at _ _ _ r true _ (by rw [HRL.out]) HRO HRT.out (by omega)).mono ?_
          rintro e w4 ⟨rfl, hB4⟩
          have hb4 := next hb3 hB4
          have HI4 := hide (HI3.out.below hB4)
          clear hB4 HRN
          have hzW := hb4.size
          have HO : Hid (LotSl (w4.alloc (.cells #[] 27)) w4.heap.size (.slice (some ⟨w4.heap.size, 0, none⟩) 0 0) []) := hide (World.ownsRow_lit w4 #[] 0 (Nat.le_refl _) (by unfold maxLen; omega) rfl)
          have HIA := hide (HI4.out.below (w' := w4.alloc (.cells #[] 27)) (by go_grown))
          go_wp2_with (first | (at_builtin; refine wpList_wanted (by rfl) (wp_push_lot _ _ (by rfl) w4.heap.size (.slice (some ⟨g1, 0, none⟩) ls.length cap1) ls (by rfl) (World.ownsRow.alloc HA1.out _) wa.heap.size ⟨-1, 0⟩ (by rfl) (heap_alloc_new wa _) (by omega) (by simp at hza; simp; omega) ?_); intro g2 cap2 wb hown2 hgrow2; have HI9 := hide hown2.lots; have hbb2 := below_push hba hgrow2 (Nat.le_refl _) (Nat.le_trans hzW hg1); clear hown2 hgrow2) | (at_builtin; refine wpList_wanted (by rfl) (wp_copy_lot _ _ (by rfl) w4.heap.size (.slice (some ⟨w4.heap.size, 0, none⟩) 0 0) (by rfl) HO.out (by simp) ⟨g, 0, none⟩ ls.length c1 ls rfl (by rfl) HIA.out (by omega) (by simp) ?_); intro g1 cap1 wa hown1 hgrow1; have HA1 : Hid (LotSl wa w4.heap.size (.slice (some ⟨g1, 0, none⟩) ls.length cap1) ls) := hide hown1; have hba := below_push hb4 hgrow1 (Nat.le_refl _) hzW; have hza := hgrow1.size; have hza4 := hba.size; have hg1 := (HA1.out.cap).2.2.2.1; clear hown1 hgrow1))
          refine (implLotsValid_at _ _ _ (ls ++ [⟨-1, 0⟩]) false _ (by simp) (hide (lotsOk_wrong ls)) HI9.out (by first | omega | (simp <;> omega))).mono ?_
          rintro e wc ⟨rfl, hBc⟩
          have hbc := next hbb2 hBc
          go_wp2_with fail
          refine (implLotsValid_at _ _ _ [] true _ rfl (hide rfl) (LotsAt.nil _ _) (by decide)).mono ?_
          rintro e wd ⟨rfl, hBd⟩
          have hbd := next hbc hBd
          go_wp2_with fail
          refine (alive_any _).mono ?_
          rintro e we ⟨rfl, hBe⟩
          go_wp2_with fail
          go_ret
          exact ⟨rfl, next hbd hBe⟩
end Go.Proofs.YtecmghoklleheaaDoor
