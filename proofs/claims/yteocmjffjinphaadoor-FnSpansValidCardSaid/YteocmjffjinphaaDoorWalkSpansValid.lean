/- For all drawn bytes the law of SpansValid answers true, and its argument reads as it did.
   Conditions: none. -/
import Derived.Test.YteocmjffjinphaaDoorLawKit
import Derived.Test.YteocmjffjinphaaDoorDrawSpans
import Derived.Test.YteocmjffjinphaaDoorCook1
namespace Go.Proofs.YteocmjffjinphaaDoor
open Go.RowKit Go.ChangeShapes Go.WideShapes Go.ChangeAt

theorem implSpansValid_at (A : Option Addr) (c n : Nat) (l : List Int) (b : Bool) (w : World) (hn : l.length = n) (hb : Hid (spansOk l = b)) (hA : IntsAt w A l) (hl : n ≤ 1048576) :
    Calls Tryd.prog 24 #[.slice A n c] w fun e w' => e = .returned (.bool b) ∧ Below w.heap.size w w' := by
  subst hn
  have := implSpansValid_any A c l w hA hl
  rwa [hb.out] at this

theorem spansOk_wrong (l : List Int) : spansOk ([-1] ++ l) = false := by
  unfold spansOk rangeOk
  rw [List.all_append]
  have : ([-1] : List Int).all (fun x => inR x 0 30) = false := by decide
  rw [this]
  simp

theorem spansOk_zeros {n : Nat} (h : n ≤ 6) : spansOk (tab n (fun _ => 0)) = true := by
  unfold spansOk rangeOk
  rw [tab_len, decide_eq_true h, Bool.true_and, List.all_eq_true]
  intro x hx
  obtain ⟨j, _, rfl⟩ := List.mem_map.1 hx
  decide

theorem spansOk_le6 {xs : List Int} (h : spansOk xs = true) : xs.length ≤ 6 := by
  unfold spansOk at h
  simp only [Bool.and_eq_true, decide_eq_true_eq] at h
  exact h.1

theorem below_pushS {w W wa : World} {o : Obj} {g n c lo : Nat} (hb : Below w.heap.size w W) (hg : (W.alloc o).grownBy wa (Value.slice (some ⟨g, 0, none⟩) n c).ownBlock) (hlo : lo ≤ g) (hw : w.heap.size ≤ lo) : Below w.heap.size w wa :=
  (hb.alloc hb.size _).grown hg (by have := hb.size; simp; omega) (fun j hj => by
    have hj : some g = some j := hj
    injection hj with hj
    omega)

def DrawnI (B : Int) (m : Nat) (w : World) (e : Ending) (w' : World) : Prop := ∃ (ls : List Int) (g c : Nat), e = .returned (.slice (some ⟨g, 0, none⟩) ls.length c) ∧ IntsAt w' (some ⟨g, 0, none⟩) ls ∧ ls.length ≤ m ∧ Hid (∀ x ∈ ls, -B ≤ x ∧ x ≤ B) ∧ Below w.heap.size w w'

set_option maxHeartbeats 1000000 in
theorem drawSpansValid_any (A : Option Addr) (c m : Nat) (w : World) (hB : BytesIn w A m) (hm : m ≤ 9223372036854775807) (hc : m ≤ c) (hc2 : c ≤ 9223372036854775807) :
    Calls Tryd.prog 23 #[.slice A m c] w (DrawnI 100 7 w) := by
  go_enter Tryd.func23, Tryd.ntmps23
  go_wp2_with fail
  refine (open_any A c m w hB hm hc hc2).mono ?_
  rintro e w1 ⟨rfl, hR1, hb1⟩
  have hz1 := hb1.size
  go_wp2_with fail
  refine (l20Spans_any w.heap.size 0 2 _ hR1 (by omega) (by omega)).mono ?_
  rintro e w2 ⟨ls, g, c2, rfl, hS2, hl, hR2, hg2, hX⟩
  have hb2 : Below w.heap.size w w2 := hb1.grown hg2 hz1 (fun j hj => by injection hj with hj; omega)
  have HI := hide hS2.ints
  have HX := hide hX
  clear hS2 hg2 hX
  go_wp2_with fail
  refine bodyPost_ret (results_tmp rfl _ _ _) rfl ⟨ls, g, c2, rfl, HI.out, hl, HX, hb2⟩

set_option maxRecDepth 100000 in
set_option maxHeartbeats 4000000 in
theorem lawSpansValid_any (A : Option Addr) (c m : Nat) (w : World) (hB : BytesIn w A m) (hc : m ≤ c) (hc2 : c ≤ 9223372036854775807) :
    Calls Tryd.prog 5 #[.slice A m c] w fun e w' => e = .returned (.bool true) ∧ Below w.heap.size w w' := by
  by_cases hlen : (1048576 : Int) < m
  · go_enter Tryd.func5, Tryd.ntmps5
    go_wp2_with fail
    go_ret
    exact ⟨rfl, by go_grown⟩
  · go_enter Tryd.func5, Tryd.ntmps5
    go_wp2_with fail
    refine (drawSpansValid_any A c m w hB (by omega) hc hc2).mono ?_
    rintro e w1 ⟨ls, g, c1, rfl, hI, hl, -, hb1⟩
    have hl' : ls.length ≤ 1048576 := by omega
    have HI := hide hI
    clear hI
    obtain ⟨v, HV⟩ : ∃ v, Hid (spansOk ls = v) := ⟨_, hide rfl⟩
    have hbb : (v != v) = false := by simp
    go_wp2_with fail
    refine (implSpansValid_any _ _ _ _ HI.out hl').mono ?_
    rintro e w2 ⟨rfl, hB2⟩
    have hb2 := next hb1 hB2
    have HI2 := hide (HI.out.below hB2)
    rw [HV.out]
    clear hB2 HI
    go_wp2_with fail
    refine (specSpansValid_any _ _ _ _ HI2.out hl').mono ?_
    rintro e w3 ⟨rfl, hB3⟩
    have hb3 := next hb2 hB3
    have HI3 := hide (HI2.out.below hB3)
    rw [HV.out]
    clear hB3 HI2
    cases v with
    | false =>
      have hzW := hb3.size
      have HO : Hid (IntSl (w3.alloc (.cells #[.int .i64 (-1)] 3)) w3.heap.size (.slice (some ⟨w3.heap.size, 0, none⟩) 1 1) [-1]) := hide (int_lit (heap_alloc_new w3 _) (Nat.le_refl _))
      have HIA := hide (HI3.out.below (w' := w3.alloc (.cells #[.int .i64 (-1)] 3)) (by go_grown))
      go_wp2_with (at_builtin; refine wpList_wantedI (by rfl) (wp_spread_int _ _ (by rfl) w3.heap.size (.slice (some ⟨w3.heap.size, 0, none⟩) 1 1) [-1] (by rfl) HO.out (by simp) ⟨g, 0, none⟩ ls.length c1 ls rfl (by rfl) HIA.out (by simp <;> omega) (by simp) ?_); intro g1 cap1 wa hown1 hgrow1; have HA1 := hide hown1.ints; have hba := below_pushS hb3 hgrow1 (Nat.le_refl _) hzW; clear hown1 hgrow1)
      refine (implSpansValid_at _ _ _ ([-1] ++ ls) false _ (by simp <;> omega) (hide (spansOk_wrong ls)) HA1.out (by first | omega | (simp <;> omega))).mono ?_
      rintro e wc ⟨rfl, hBc⟩
      have hbc := next hba hBc
      go_wp2_with fail
      refine (alive_any _).mono ?_
      rintro e we ⟨rfl, hBe⟩
      go_wp2_with fail
      go_ret
      exact ⟨rfl, next hbc hBe⟩
    | true =>
      have h6 := spansOk_le6 HV.out
      have hmk := make_ints ls.length hl'
      have HZ := hide (zeros_tabG w3 (lo := w.heap.size) ls.length hb3.size hl')
      have HZI := hide HZ.out.ints
      go_wp2_with fail
      refine (implSpansValid_at _ _ _ (tab ls.length (fun _ => 0)) true _ (tab_len _ _) (hide (spansOk_zeros h6)) HZI.out (by omega)).mono ?_
      rintro e w4 ⟨rfl, hB4⟩
      have hsz3 := hb3.size
      have hb4 : Below w.heap.size w w4 := Below.trans (by go_grown) (hB4.mono (by have := hb3.size; simp; omega))
      have HI4 := hide ((HI3.out.below (w' := w3.alloc (.cells (madeCells #[.int .i64 0] ls.length) 3)) (by go_grown)).below hB4)
      clear hB4 hmk HZ HZI
      have hzW := hb4.size
      have HO : Hid (IntSl (w4.alloc (.cells #[.int .i64 (-1)] 3)) w4.heap.size (.slice (some ⟨w4.heap.size, 0, none⟩) 1 1) [-1]) := hide (int_lit (heap_alloc_new w4 _) (Nat.le_refl _))
      have HIA := hide (HI4.out.below (w' := w4.alloc (.cells #[.int .i64 (-1)] 3)) (by go_grown))
      go_wp2_with (at_builtin; refine wpList_wantedI (by rfl) (wp_spread_int _ _ (by rfl) w4.heap.size (.slice (some ⟨w4.heap.size, 0, none⟩) 1 1) [-1] (by rfl) HO.out (by simp) ⟨g, 0, none⟩ ls.length c1 ls rfl (by rfl) HIA.out (by simp <;> omega) (by simp) ?_); intro g1 cap1 wa hown1 hgrow1; have HA1 := hide hown1.ints; have hba := below_pushS hb4 hgrow1 (Nat.le_refl _) hzW; clear hown1 hgrow1)
      refine (implSpansValid_at _ _ _ ([-1] ++ ls) false _ (by simp <;> omega) (hide (spansOk_wrong ls)) HA1.out (by first | omega | (simp <;> omega))).mono ?_
      rintro e wc ⟨rfl, hBc⟩
      have hbc := next hba hBc
      go_wp2_with fail
      refine (alive_any _).mono ?_
      rintro e we ⟨rfl, hBe⟩
      go_wp2_with fail
      go_ret
      exact ⟨rfl, next hbc hBe⟩
end Go.Proofs.YteocmjffjinphaaDoor
