/- For all drawn bytes the law of PricesValid answers true, and its argument reads as it did.
   Conditions: none. -/
import Derived.Test.YtgdbjnnimjhgbaaDoorLawKit
import Derived.Test.YtgdbjnnimjhgbaaDoorDraw4
import Derived.Test.YtgdbjnnimjhgbaaDoorDrawPrices
import Derived.Test.YtgdbjnnimjhgbaaDoorSpread0
namespace Go.Proofs.YtgdbjnnimjhgbaaDoor
open Go.RowKit Go.ChangeShapes Go.WideShapes Go.ChangeAt Go.Deep

theorem rangeOk_zeros (n : Nat) : rangeOk 20 (tab n (fun _ => 0)) = true := by
  unfold rangeOk
  rw [List.all_eq_true]
  intro x hx
  obtain ⟨i, hi⟩ := List.mem_iff_getElem?.1 hx
  have hl := (List.getElem?_eq_some_iff.1 hi).1
  rw [tab_len] at hl
  rw [tab_at hl] at hi
  injection hi with hi
  rw [← hi]
  rfl
theorem prices_zeros (l : List Item) : pricesOk l (tab l.length (fun _ => 0)) = itemsOk l := by
  unfold pricesOk
  rw [rangeOk_zeros, tab_len]
  simp
theorem prices_more {l : List Item} {xs : List Int} (h : pricesOk l xs = true) : pricesOk l (xs ++ [0]) = false := by
  unfold pricesOk at *
  simp only [Bool.and_eq_true, decide_eq_true_eq] at h
  have : decide (((xs ++ [0]).length : Int) = l.length) = false := decide_eq_false (by rw [List.length_append]; simp; omega)
  rw [this]
  simp

theorem step_spread_intP {W : World} {ops : Array Oper} {o : Oper} {a : Act} {K : Act → World → Prop} {Q : Exit → Act → World → Prop} {E : Prop} (hw : Region.wanted o (yielded ops a.tmps) = true) (s x : Operand)
    (ho : o.op = .call { callee := .builtin .append, args := #[s, x], argTypes := #[24, 24] }) (lo : Nat) (v : Value) (ls : List Int) (hs : a.eval s = v) (hown : IntSl W lo v ls) (hv : v ≠ .slice none 0 0)
    (ad : Addr) (m c : Nat) (xs : List Int) (hm : xs.length = m) (hx : a.eval x = .slice (some ad) m c) (hA : IntsAt W (some ad) xs) (hn : ls.length + m ≤ 1048576) (hlo : lo ≤ W.heap.size)
    (h : ∀ g cap w', IntSl w' lo (.slice (some ⟨g, 0, none⟩) (ls.length + m) cap) (ls ++ xs) → W.grownBy w' v.ownBlock → K (a.put o.dst (.slice (some ⟨g, 0, none⟩) (ls.length + m) cap)) w') :
    if Region.wanted o (yielded ops a.tmps) = true then Oper.wp Tryd.prog o a W K Q else E := by
  rw [if_pos hw]
  exact wp_spread_int s x ho lo v ls hs hown hv ad m c xs hm hx hA hn hlo h
theorem step_push_intP {W : World} {ops : Array Oper} {o : Oper} {a : Act} {K : Act → World → Prop} {Q : Exit → Act → World → Prop} {E : Prop} (hw : Region.wanted o (yielded ops a.tmps) = true) (s x : Operand)
    (ho : o.op = .call { callee := .builtin .append, args := #[s, x], argTypes := #[24, 24] }) (lo : Nat) (v : Value) (xs : List Int) (hs : a.eval s = v) (hown : IntSl W lo v xs) (g : Nat) (y : Int)
    (hx : a.eval x = .slice (some ⟨g, 0, none⟩) 1 1) (hg : W.heap[g]? = some (.cells #[.int .i64 y] 3 (0, 0))) (hn : xs.length ≤ 1048576) (hlo : lo ≤ W.heap.size)
    (h : ∀ g' cap w', IntSl w' lo (.slice (some ⟨g', 0, none⟩) (xs.length + 1) cap) (xs ++ [y]) → W.grownBy w' v.ownBlock → K (a.put o.dst (.slice (some ⟨g', 0, none⟩) (xs.length + 1) cap)) w') :
    if Region.wanted o (yielded ops a.tmps) = true then Oper.wp Tryd.prog o a W K Q else E := by
  rw [if_pos hw]
  exact wp_push_intI s x ho lo v xs hs hown g y hx hg hn hlo h

def DrawnPr (w : World) (e : Ending) (w' : World) : Prop := ∃ (l : List Item) (A : Option Addr) (c : Nat) (xs : List Int) (g c2 : Nat), e = .returned (.tuple #[.slice A l.length c, .slice (some ⟨g, 0, none⟩) xs.length c2]) ∧ ItemsAt w' A l ∧ l.length ≤ 7 ∧ (∀ x ∈ l, x.parts.length ≤ 5) ∧ IntsAt w' (some ⟨g, 0, none⟩) xs ∧ xs.length ≤ 8 ∧ g < w'.heap.size ∧ Below w.heap.size w w'

set_option maxRecDepth 100000 in
set_option maxHeartbeats 1000000 in
theorem drawPricesValid_any (A : Option Addr) (c m : Nat) (w : World) (hB : BytesIn w A m) (hm : m ≤ 9223372036854775807) (hc : m ≤ c) (hc2 : c ≤ 9223372036854775807) :
    Calls Tryd.prog 4 #[.slice A m c] w (DrawnPr w) := by
  go_enter Tryd.func4, Tryd.ntmps4
  go_wp2_with fail
  refine (open_any A c m w hB hm hc hc2).mono ?_
  rintro e w1 ⟨rfl, hR1, hb1⟩
  have hz1 := hb1.size
  go_wp2_with fail
  refine (l20Items_any w.heap.size 0 9 _ hR1 (by omega) (by omega)).mono ?_
  rintro e w2 ⟨l, v, rfl, hS2, hl, hp, hR2, hg2⟩
  have hb2 : Below w.heap.size w w2 := hb1.grown hg2 hz1 (fun j hj => by injection hj with hj; omega)
  have hz2 := hb2.size
  obtain ⟨A2, c2, hv, hI2⟩ := hS2.form
  subst hv
  have HS := hide (And.intro hS2 (And.intro hR2 (And.intro hp hR1)))
  clear hS2 hp hR1 hI2
  go_wp2_with fail
  refine (l20Prices_any w.heap.size _ l.length A2 c2 3 _ hR2 (by omega) hl (by omega)).mono ?_
  rintro e w3 ⟨xs, g, c3, rfl, hX3, hx, hR3, hg3, -⟩
  have hb3 : Below w.heap.size w w3 := hb2.grown hg3 hz2 (fun j hj => by injection hj with hj; omega)
  have hS3 := HS.out.1.pick HS.out.2.1 HS.out.2.2.2.lt hg3
  obtain ⟨A3, c4, hv, hI3⟩ := hS3.form
  injection hv with hv hv2 hv3
  subst hv hv3
  have HI := hide hI3
  have HX := hide hX3.ints
  have hgl := (IntSl.capI hX3).2.2.2.2
  clear hI3 hS3 hR3 hg3 hR2 hg2 hX3
  go_wp2_with fail
  refine bodyPost_ret (results_tmp2 rfl _ _ _) rfl ⟨l, A2, c2, xs, g, c3, rfl, HI.out, hl, HS.out.2.2.1, HX.out, hx, hgl, hb3⟩

set_option maxRecDepth 100000 in
set_option maxHeartbeats 4000000 in
theorem lawPricesValid_any (A : Option Addr) (c m : Nat) (w : World) (hB : BytesIn w A m) (hc : m ≤ c) (hc2 : c ≤ 9223372036854775807) :
    Calls Tryd.prog 3 #[.slice A m c] w fun e w' => e = .returned (.bool true) ∧ Below w.heap.size w w' := by
  by_cases hlen : (1048576 : Int) < m
  · go_enter Tryd.func3, Tryd.ntmps3
    go_wp2_with fail
    go_ret
    exact ⟨rfl, by go_grown⟩
  · go_enter Tryd.func3, Tryd.ntmps3
    go_wp2_with fail
    refine (drawPricesValid_any A c m w hB (by omega) hc hc2).mono ?_
    rintro e w1 ⟨l, A1, c1, xs, go, c2, rfl, hI, hl, hp, hX, hxl, hgl, hb1⟩
    have hl' : l.length ≤ 1048576 := by omega
    have hx' : xs.length ≤ 1048576 := by omega
    have HP : Hid (∀ x ∈ l, x.parts.length ≤ 1048576) := hide (fun x hx => by have := hp x hx; omega)
    have HI1 := hide hI
    have HX1 := hide hX
    obtain ⟨v, HV⟩ : ∃ v, Hid (pricesOk l xs = v) := ⟨_, hide rfl⟩
    have hbb : (v != v) = false := by simp
    clear hp hI hX
    go_wp2_with fail
    refine (implPricesValid_any _ _ _ _ _ _ _ HI1.out hl' HP.out HX1.out hx').mono ?_
    rintro e w2 ⟨rfl, hB2⟩
    rw [HV.out]
    have hb2 := next hb1 hB2
    have HI2 := hide (HI1.out.below hB2)
    have HX2 := hide (HX1.out.below hB2)
    clear hB2 HI1 HX1
    go_wp2_with fail
    refine (specPricesValid_any _ _ _ _ _ _ _ HI2.out hl' HP.out HX2.out hx').mono ?_
    rintro e w3 ⟨rfl, hB3⟩
    rw [HV.out]
    have hb := next hb2 hB3
    have HI3 := hide (HI2.out.below hB3)
    have HJR := hide (HX2.out.below hB3)
    clear hB3 HI2 HX2
    obtain ⟨y, HY⟩ : ∃ y, Hid (itemsOk l = y) := ⟨_, hide rfl⟩
    have hyy : (y == y) = true := by simp
    have hmk : ∀ W, (Instr.makeSlice 24 (.int .i64 (l.length : Int)) (.int .i64 (l.length : Int))).run Tryd.prog W = .ok (.slice (some ⟨W.heap.size, 0, none⟩) l.length l.length) (W.alloc (.cells (madeCells #[.int .i64 0] l.length) 3)) := make_ints l.length hl'
    have HCZ : Hid (∀ W, Below w3.heap.size w3 W → ∀ A' c', IntsAt W A' (tab l.length (fun _ => 0)) → Calls Tryd.prog 5 #[.slice A1 l.length c1, .slice A' l.length c'] W fun e w' => e = .returned (.bool y) ∧ Below W.heap.size W w') := hide (fun W hW A' c' hZ => by
      have := implPricesValid_any A1 A' c1 c' l _ W (HI3.out.below hW) hl' HP.out hZ (by rw [tab_len]; exact hl')
      rw [prices_zeros, HY.out] at this
      rwa [tab_len] at this)
    have HCI : Hid (∀ W, Below w3.heap.size w3 W → Calls Tryd.prog 7 #[.slice A1 l.length c1] W fun e w' => e = .returned (.bool y) ∧ Below W.heap.size W w') := hide (fun W hW => by
      have := implItemsValid_any A1 c1 l W (HI3.out.below hW) hl' HP.out
      rwa [HY.out] at this)
    cases v with
    | false =>
      have HZ := hide (IntSl.ints (zeros_tabG w3 (lo := w3.heap.size) l.length (Nat.le_refl _) hl'))
      have hBa : Below w3.heap.size w3 (w3.alloc (.cells (madeCells #[.int .i64 0] l.length) 3)) := (Below.refl _ _).alloc (Nat.le_refl _) _
      go_wp2_with fail
      refine (HCZ.out _ hBa _ _ HZ.out).mono ?_
      rintro e w4 ⟨rfl, hB4⟩
      have hb4 := next hBa hB4
      clear hB4 hBa hmk
      go_wp2_with fail
      refine (HCI.out _ hb4).mono ?_
      rintro e w5 ⟨rfl, hB5⟩
      have hb5 := next hb4 hB5
      clear hB5 hb4
      go_wp2_with fail
      refine (alive_any _).mono ?_
      rintro e w6 ⟨rfl, hB6⟩
      go_wp2_with fail
      go_ret
      exact ⟨rfl, next hb (next hb5 hB6)⟩
    | true =>
      have HCM : Hid (∀ W, Below w3.heap.size w3 W → ∀ A' n c', IntsAt W A' (xs ++ [0]) → n = (xs ++ [0]).length → Calls Tryd.prog 5 #[.slice A1 l.length c1, .slice A' n c'] W fun e w' => e = .returned (.bool false) ∧ Below W.heap.size W w') := hide (fun W hW A' n c' hZ hn => by
        subst hn
        have := implPricesValid_any A1 A' c1 c' l _ W (HI3.out.below hW) hl' HP.out hZ (by rw [List.length_append]; simp; omega)
        rwa [prices_more HV.out] at this)
      have HZ := hide (IntSl.ints (zeros_tabG w3 (lo := w3.heap.size) l.length (Nat.le_refl _) hl'))
      have hBa : Below w3.heap.size w3 (w3.alloc (.cells (madeCells #[.int .i64 0] l.length) 3)) := (Below.refl _ _).alloc (Nat.le_refl _) _
      go_wp2_with fail
      refine (HCZ.out _ hBa _ _ HZ.out).mono ?_
      rintro e w4 ⟨rfl, hB4⟩
      have hb4 := next hBa hB4
      clear hB4 hBa hmk
      go_wp2_with fail
      refine (HCI.out _ hb4).mono ?_
      rintro e w5 ⟨rfl, hB5⟩
      have hb5 := next hb4 hB5
      clear hB5 hb4
      have hz5 : w3.heap.size ≤ w5.heap.size := hb5.size
      have HO5 : Hid (IntSl (w5.alloc (.cells #[] 3)) w5.heap.size (.slice (some ⟨w5.heap.size, 0, none⟩) 0 0) []) := hide (World.ownsRow_lit w5 #[] 0 (Nat.le_refl _) (by unfold maxLen; omega) rfl)
      have hb5a : Below w3.heap.size w3 (w5.alloc (.cells #[] 3)) := hb5.alloc hz5 _
      have HJ5 := hide (HJR.out.below hb5a)
      go_wp2_with (first
        | (at_builtin; refine wpList_wantedI (by rfl) (wp_spread_int _ _ (by rfl) w5.heap.size (.slice (some ⟨w5.heap.size, 0, none⟩) 0 0) [] (by rfl) HO5.out (by simp) ⟨go, 0, none⟩ xs.length c2 xs rfl (by rfl) HJ5.out (by simp; omega) (by simp) ?_); intro g7 cap7 w7 hown hgrow; have HOW := hide (And.intro hown hgrow); clear hown hgrow; have hb7 : Below w3.heap.size w3 w7 := hb5a.grown HOW.out.2 (by simp; omega) (fun k hk => Nat.le_trans hz5 (World.ownsRow.lt HO5.out k hk).1); have HO7 : Hid (IntSl w7 w5.heap.size (.slice (some ⟨g7, 0, none⟩) xs.length cap7) xs) := hide (by have h := HOW.out.1; rw [List.length_nil, Nat.zero_add] at h; exact h); have HZ7 : w5.heap.size ≤ w7.heap.size := Nat.le_trans (by simp) HOW.out.2.size; clear HOW; simp only [List.length_nil, Nat.zero_add])
        | (at_builtin; refine wpList_wantedI (by rfl) (wp_push_intI _ _ (by rfl) w5.heap.size (.slice (some ⟨g7, 0, none⟩) xs.length cap7) xs (by rfl) (World.ownsRow.alloc HO7.out _) w7.heap.size 0 (by rfl) (heap_alloc_new w7 _) hx' (by simp; omega) ?_); intro g8 cap8 w8 hown hgrow; have HOW := hide (And.intro hown hgrow); clear hown hgrow))
      have hz7 := hb7.size
      have hb8 : Below w3.heap.size w3 w8 := (hb7.alloc hz7 (.cells #[.int .i64 0] 3)).grown HOW.out.2 (by simp; omega) (fun k hk => Nat.le_trans hz5 (World.ownsRow.lt HO7.out k hk).1)
      refine (HCM.out _ hb8 _ _ _ (IntSl.ints HOW.out.1) (by simp)).mono ?_
      rintro e w9 ⟨rfl, hB9⟩
      have hb9 := next hb8 hB9
      clear hB9
      go_wp2_with fail
      refine (alive_any _).mono ?_
      rintro e w6 ⟨rfl, hB6⟩
      go_wp2_with fail
      go_ret
      exact ⟨rfl, next hb (next hb9 hB6)⟩
end Go.Proofs.YtgdbjnnimjhgbaaDoor
