/- For all drawn bytes the law of DishesValid answers true, and its argument reads as it did.
   Conditions: none. -/
import Derived.Test.YteocmjffjinphaaDoorLawKit
import Derived.Test.YteocmjffjinphaaDoorDrawDishes
import Derived.Test.YteocmjffjinphaaDoorCook1
namespace Go.Proofs.YteocmjffjinphaaDoor
open Go.RowKit Go.ChangeShapes Go.WideShapes Go.ChangeAt

theorem dishes_bad (l : List Dish) : dishesOk (l ++ [⟨-1, 0⟩]) = false := by
  unfold dishesOk
  rw [List.all_append]
  have : ([⟨-1, 0⟩] : List Dish).all dishOk = false := by decide
  rw [this]
  simp
theorem dishes_more {l : List Dish} (h : dishesOk l = true) (h6 : l.length ≠ 6) : dishesOk (l ++ [⟨0, 0⟩]) = true := by
  unfold dishesOk at *
  simp only [Bool.and_eq_true, decide_eq_true_eq] at h
  have : ([⟨0, 0⟩] : List Dish).all dishOk = true := by decide
  rw [List.all_append, h.2, this, List.length_append, decide_eq_true (by simp; omega)]
  rfl
theorem implDishesValid_at (A : Option Addr) (c n : Nat) (l : List Dish) (b : Bool) (w : World) (hn : l.length = n) (hb : Hid (dishesOk l = b)) (hA : DishesAt w A l) (hl : n ≤ 1048576) :
    Calls Tryd.prog 17 #[.slice A n c] w fun e w' => e = .returned (.bool b) ∧ Below w.heap.size w w' := by
  subst hn
  have := implDishesValid_any A c l w hA hl
  rwa [hb.out] at this
theorem below_ownD {w wr : World} {o : Obj} (hg : (w.alloc o).grownBy wr (some w.heap.size)) : Below w.heap.size w wr :=
  (Below.alloc (Below.refl _ _) (Nat.le_refl _) _).grown hg (by simp) (fun j hj => by injection hj with hj; omega)

def DrawnD (w : World) (e : Ending) (w' : World) : Prop := ∃ (ls : List Dish) (g c : Nat), e = .returned (.slice (some ⟨g, 0, none⟩) ls.length c) ∧ DishesAt w' (some ⟨g, 0, none⟩) ls ∧ ls.length ≤ 7 ∧ Below w.heap.size w w'

set_option maxHeartbeats 1000000 in
theorem drawDishesValid_any (A : Option Addr) (c m : Nat) (w : World) (hB : BytesIn w A m) (hm : m ≤ 9223372036854775807) (hc : m ≤ c) (hc2 : c ≤ 9223372036854775807) :
    Calls Tryd.prog 16 #[.slice A m c] w (DrawnD w) := by
  go_enter Tryd.func16, Tryd.ntmps16
  go_wp2_with fail
  refine (open_any A c m w hB hm hc hc2).mono ?_
  rintro e w1 ⟨rfl, hR1, hb1⟩
  have hz1 := hb1.size
  go_wp2_with fail
  refine (l20Dishes_any w.heap.size 0 2 _ hR1 (by omega) (by omega)).mono ?_
  rintro e w2 ⟨ls, g, c2, rfl, hS2, hl, hR2, hg2⟩
  have hb2 : Below w.heap.size w w2 := hb1.grown hg2 hz1 (fun j hj => by injection hj with hj; omega)
  have HI := hide (DishSl.dishes hS2)
  clear hS2 hg2
  go_wp2_with fail
  refine bodyPost_ret (results_tmp rfl _ _ _) rfl ⟨ls, g, c2, rfl, HI.out, hl, hb2⟩

set_option maxRecDepth 100000 in
set_option maxHeartbeats 4000000 in
theorem lawDishesValid_any (A : Option Addr) (c m : Nat) (w : World) (hB : BytesIn w A m) (hc : m ≤ c) (hc2 : c ≤ 9223372036854775807) :
    Calls Tryd.prog 3 #[.slice A m c] w fun e w' => e = .returned (.bool true) ∧ Below w.heap.size w w' := by
  by_cases hlen : (1048576 : Int) < m
  · go_enter Tryd.func3, Tryd.ntmps3
    go_wp2_with fail
    go_ret
    exact ⟨rfl, by go_grown⟩
  · go_enter Tryd.func3, Tryd.ntmps3
    go_wp2_with fail
    refine (drawDishesValid_any A c m w hB (by omega) hc hc2).mono ?_
    rintro e w1 ⟨ls, g, c1, rfl, hI, hl, hb1⟩
    have hl' : ls.length ≤ 1048576 := by omega
    have HI := hide hI
    clear hI
    obtain ⟨v, HV⟩ : ∃ v, Hid (dishesOk ls = v) := ⟨_, hide rfl⟩
    have hbb : (v != v) = false := by simp
    go_wp2_with fail
    refine (implDishesValid_any _ _ _ _ HI.out hl').mono ?_
    rintro e w2 ⟨rfl, hB2⟩
    have hb2 := next hb1 hB2
    have HI2 := hide (HI.out.below hB2)
    rw [HV.out]
    clear hB2 HI
    go_wp2_with fail
    refine (specDishesValid_any _ _ _ _ HI2.out hl').mono ?_
    rintro e w3 ⟨rfl, hB3⟩
    have hb3 := next hb2 hB3
    have HI3 := hide (HI2.out.below hB3)
    rw [HV.out]
    clear hB3 HI2
    have hz3 := hb3.size
    have HL3 : Hid (DishSl (w3.alloc (.cells #[] 27)) w3.heap.size (.slice (some ⟨w3.heap.size, 0, none⟩) 0 0) []) := hide (World.ownsRow_lit w3 #[] 0 (Nat.le_refl _) (by unfold maxLen; omega) rfl)
    have HIA3 : Hid (DishesAt (w3.alloc (.cells #[] 27)) (some ⟨g, 0, none⟩) ls) := hide (HI3.out.below (by go_grown))
    have HBAD : Hid (dishesOk (ls ++ [⟨-1, 0⟩]) = false) := hide (dishes_bad ls)
    cases v with
    | false =>
      go_wp2_with (at_builtin; first
        | (refine wpList_wantedI (by rfl) (wp_copy_dish _ _ (by rfl) w3.heap.size (.slice (some ⟨w3.heap.size, 0, none⟩) 0 0) (by rfl) HL3.out (by simp) ⟨g, 0, none⟩ ls.length c1 ls rfl (by rfl) HIA3.out hl' (by simp) ?_); intro g4 cap4 w4 hown hgrow; have HO4 := hide hown; have HB4 : Hid (Below w3.heap.size w3 w4) := hide (below_ownD hgrow); have HD4 := hide (World.ownsRow.lt HO4.out); clear hown hgrow)
        | (refine wpList_wantedI (by rfl) (wp_push_dish _ _ (by rfl) w3.heap.size (.slice (some ⟨g4, 0, none⟩) ls.length cap4) ls (by rfl) (World.ownsRow.alloc HO4.out _) w4.heap.size ⟨0, 0⟩ (by rfl) (heap_alloc_new w4 _) hl' (by have := HB4.out.size; simp; omega) ?_); intro g5 cap5 w5 hown hgrow; have HB5 : Hid (Below w3.heap.size w3 w5) := hide ((HB4.out.alloc HB4.out.size _).grown hgrow (by have := HB4.out.size; simp; omega) (fun k hk => (HD4.out k hk).1)); have HI5 := hide (DishSl.dishes hown); clear hown hgrow; have HI35 := hide (HI3.out.below HB5.out); have HL5 : Hid (DishSl (w5.alloc (.cells #[] 27)) w5.heap.size (.slice (some ⟨w5.heap.size, 0, none⟩) 0 0) []) := hide (World.ownsRow_lit w5 #[] 0 (Nat.le_refl _) (by unfold maxLen; omega) rfl); have HIA5 : Hid (DishesAt (w5.alloc (.cells #[] 27)) (some ⟨g, 0, none⟩) ls) := hide (HI35.out.below (by go_grown)))
        | (refine wpList_wantedI (by rfl) (wp_copy_dish _ _ (by rfl) w5.heap.size (.slice (some ⟨w5.heap.size, 0, none⟩) 0 0) (by rfl) HL5.out (by simp) ⟨g, 0, none⟩ ls.length c1 ls rfl (by rfl) HIA5.out hl' (by simp) ?_); intro g6 cap6 w6 hown hgrow; have HO6 := hide hown; have HB6 : Hid (Below w5.heap.size w5 w6) := hide (below_ownD hgrow); have HD6 := hide (World.ownsRow.lt HO6.out); clear hown hgrow)
        | (refine wpList_wantedI (by rfl) (wp_push_dish _ _ (by rfl) w5.heap.size (.slice (some ⟨g6, 0, none⟩) ls.length cap6) ls (by rfl) (World.ownsRow.alloc HO6.out _) w6.heap.size ⟨-1, 0⟩ (by rfl) (heap_alloc_new w6 _) hl' (by have := HB6.out.size; simp; omega) ?_); intro g7 cap7 w7 hown hgrow; have HB7 : Hid (Below w5.heap.size w5 w7) := hide ((HB6.out.alloc HB6.out.size _).grown hgrow (by have := HB6.out.size; simp; omega) (fun k hk => (HD6.out k hk).1)); have HI7 := hide (DishSl.dishes hown); clear hown hgrow))
      have hb7 := next (next hb3 HB5.out) HB7.out
      refine (implDishesValid_at _ _ _ (ls ++ [⟨-1, 0⟩]) false _ (by simp) HBAD HI7.out (by omega)).mono ?_
      rintro e w8 ⟨rfl, hB8⟩
      have hb8 := next hb7 hB8
      go_wp2_with fail
      refine (alive_any _).mono ?_
      rintro e w9 ⟨rfl, hB9⟩
      go_wp2_with fail
      go_ret
      exact ⟨rfl, next hb8 hB9⟩
    | true =>
      by_cases h6 : ls.length = 6
      · have hg6 : ((ls.length : Int) == 6) = true := by rw [h6]; rfl
        clear h6
        go_wp2_with (at_builtin; first
          | (refine wpList_wantedI (by rfl) (wp_copy_dish _ _ (by rfl) w3.heap.size (.slice (some ⟨w3.heap.size, 0, none⟩) 0 0) (by rfl) HL3.out (by simp) ⟨g, 0, none⟩ ls.length c1 ls rfl (by rfl) HIA3.out hl' (by simp) ?_); intro g4 cap4 w4 hown hgrow; have HO4 := hide hown; have HB4 : Hid (Below w3.heap.size w3 w4) := hide (below_ownD hgrow); have HD4 := hide (World.ownsRow.lt HO4.out); clear hown hgrow)
          | (refine wpList_wantedI (by rfl) (wp_push_dish _ _ (by rfl) w3.heap.size (.slice (some ⟨g4, 0, none⟩) ls.length cap4) ls (by rfl) (World.ownsRow.alloc HO4.out _) w4.heap.size ⟨0, 0⟩ (by rfl) (heap_alloc_new w4 _) hl' (by have := HB4.out.size; simp; omega) ?_); intro g5 cap5 w5 hown hgrow; have HB5 : Hid (Below w3.heap.size w3 w5) := hide ((HB4.out.alloc HB4.out.size _).grown hgrow (by have := HB4.out.size; simp; omega) (fun k hk => (HD4.out k hk).1)); have HI5 := hide (DishSl.dishes hown); clear hown hgrow; have HI35 := hide (HI3.out.below HB5.out); have HL5 : Hid (DishSl (w5.alloc (.cells #[] 27)) w5.heap.size (.slice (some ⟨w5.heap.size, 0, none⟩) 0 0) []) := hide (World.ownsRow_lit w5 #[] 0 (Nat.le_refl _) (by unfold maxLen; omega) rfl); have HIA5 : Hid (DishesAt (w5.alloc (.cells #[] 27)) (some ⟨g, 0, none⟩) ls) := hide (HI35.out.below (by go_grown)))
          | (refine wpList_wantedI (by rfl) (wp_copy_dish _ _ (by rfl) w5.heap.size (.slice (some ⟨w5.heap.size, 0, none⟩) 0 0) (by rfl) HL5.out (by simp) ⟨g, 0, none⟩ ls.length c1 ls rfl (by rfl) HIA5.out hl' (by simp) ?_); intro g6 cap6 w6 hown hgrow; have HO6 := hide hown; have HB6 : Hid (Below w5.heap.size w5 w6) := hide (below_ownD hgrow); have HD6 := hide (World.ownsRow.lt HO6.out); clear hown hgrow)
          | (refine wpList_wantedI (by rfl) (wp_push_dish _ _ (by rfl) w5.heap.size (.slice (some ⟨g6, 0, none⟩) ls.length cap6) ls (by rfl) (World.ownsRow.alloc HO6.out _) w6.heap.size ⟨-1, 0⟩ (by rfl) (heap_alloc_new w6 _) hl' (by have := HB6.out.size; simp; omega) ?_); intro g7 cap7 w7 hown hgrow; have HB7 : Hid (Below w5.heap.size w5 w7) := hide ((HB6.out.alloc HB6.out.size _).grown hgrow (by have := HB6.out.size; simp; omega) (fun k hk => (HD6.out k hk).1)); have HI7 := hide (DishSl.dishes hown); clear hown hgrow))
        have hb7 := next (next hb3 HB5.out) HB7.out
        refine (implDishesValid_at _ _ _ (ls ++ [⟨-1, 0⟩]) false _ (by simp) HBAD HI7.out (by omega)).mono ?_
        rintro e w8 ⟨rfl, hB8⟩
        have hb8 := next hb7 hB8
        go_wp2_with fail
        refine (alive_any _).mono ?_
        rintro e w9 ⟨rfl, hB9⟩
        go_wp2_with fail
        go_ret
        exact ⟨rfl, next hb8 hB9⟩
      · have hg6 : ((ls.length : Int) == 6) = false := beq_false_of_ne (by omega)
        have HGOOD : Hid (dishesOk (ls ++ [⟨0, 0⟩]) = true) := hide (dishes_more HV.out h6)
        clear h6
        go_wp2_with (at_builtin; first
          | (refine wpList_wantedI (by rfl) (wp_copy_dish _ _ (by rfl) w3.heap.size (.slice (some ⟨w3.heap.size, 0, none⟩) 0 0) (by rfl) HL3.out (by simp) ⟨g, 0, none⟩ ls.length c1 ls rfl (by rfl) HIA3.out hl' (by simp) ?_); intro g4 cap4 w4 hown hgrow; have HO4 := hide hown; have HB4 : Hid (Below w3.heap.size w3 w4) := hide (below_ownD hgrow); have HD4 := hide (World.ownsRow.lt HO4.out); clear hown hgrow)
          | (refine wpList_wantedI (by rfl) (wp_push_dish _ _ (by rfl) w3.heap.size (.slice (some ⟨g4, 0, none⟩) ls.length cap4) ls (by rfl) (World.ownsRow.alloc HO4.out _) w4.heap.size ⟨0, 0⟩ (by rfl) (heap_alloc_new w4 _) hl' (by have := HB4.out.size; simp; omega) ?_); intro g5 cap5 w5 hown hgrow; have HB5 : Hid (Below w3.heap.size w3 w5) := hide ((HB4.out.alloc HB4.out.size _).grown hgrow (by have := HB4.out.size; simp; omega) (fun k hk => (HD4.out k hk).1)); have HI5 := hide (DishSl.dishes hown); clear hown hgrow))
        have hb5 := next hb3 HB5.out
        refine (implDishesValid_at _ _ _ (ls ++ [⟨0, 0⟩]) true _ (by simp) HGOOD HI5.out (by omega)).mono ?_
        rintro e w6 ⟨rfl, hB6⟩
        have hb6 := next hb5 hB6
        have HI36 := hide ((HI3.out.below HB5.out).below hB6)
        have HL6 : Hid (DishSl (w6.alloc (.cells #[] 27)) w6.heap.size (.slice (some ⟨w6.heap.size, 0, none⟩) 0 0) []) := hide (World.ownsRow_lit w6 #[] 0 (Nat.le_refl _) (by unfold maxLen; omega) rfl)
        have HIA6 : Hid (DishesAt (w6.alloc (.cells #[] 27)) (some ⟨g, 0, none⟩) ls) := hide (HI36.out.below (by go_grown))
        clear hB6
        go_wp2_with (at_builtin; first
          | (refine wpList_wantedI (by rfl) (wp_copy_dish _ _ (by rfl) w6.heap.size (.slice (some ⟨w6.heap.size, 0, none⟩) 0 0) (by rfl) HL6.out (by simp) ⟨g, 0, none⟩ ls.length c1 ls rfl (by rfl) HIA6.out hl' (by simp) ?_); intro g7 cap7 w7 hown hgrow; have HO7 := hide hown; have HB7 : Hid (Below w6.heap.size w6 w7) := hide (below_ownD hgrow); have HD7 := hide (World.ownsRow.lt HO7.out); clear hown hgrow)
          | (refine wpList_wantedI (by rfl) (wp_push_dish _ _ (by rfl) w6.heap.size (.slice (some ⟨g7, 0, none⟩) ls.length cap7) ls (by rfl) (World.ownsRow.alloc HO7.out _) w7.heap.size ⟨-1, 0⟩ (by rfl) (heap_alloc_new w7 _) hl' (by have := HB7.out.size; simp; omega) ?_); intro g8 cap8 w8 hown hgrow; have HB8 : Hid (Below w6.heap.size w6 w8) := hide ((HB7.out.alloc HB7.out.size _).grown hgrow (by have := HB7.out.size; simp; omega) (fun k hk => (HD7.out k hk).1)); have HI8 := hide (DishSl.dishes hown); clear hown hgrow))
        have hb8 := next hb6 HB8.out
        refine (implDishesValid_at _ _ _ (ls ++ [⟨-1, 0⟩]) false _ (by simp) HBAD HI8.out (by omega)).mono ?_
        rintro e w9 ⟨rfl, hB9⟩
        have hb9 := next hb8 hB9
        go_wp2_with fail
        refine (alive_any _).mono ?_
        rintro e w10 ⟨rfl, hB10⟩
        go_wp2_with fail
        go_ret
        exact ⟨rfl, next hb9 hB10⟩
end Go.Proofs.YteocmjffjinphaaDoor
