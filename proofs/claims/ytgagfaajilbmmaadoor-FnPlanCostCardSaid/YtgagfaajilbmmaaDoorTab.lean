/- Lists given by a function of the index; the call's own rows of numbers: append, store. And the contract of l1Left of the reference model.
   Conditions: the bounds in each statement. -/
import Derived.Test.YtgagfaajilbmmaaDoorOk
import Derived.StillTailTactics
import Derived.Deep.AppendLies
namespace Go.Proofs.YtgagfaajilbmmaaDoor
open Go.RowKit

def tab (n : Nat) (f : Nat → Int) : List Int := (List.range n).map f
theorem tab_len (n : Nat) (f : Nat → Int) : (tab n f).length = n := by simp [tab]
theorem tab_at {n : Nat} {f : Nat → Int} {i : Nat} (h : i < n) : (tab n f)[i]? = some (f i) := by simp [tab, h]
theorem tab_snoc (n : Nat) (f : Nat → Int) : tab n f ++ [f n] = tab (n + 1) f := by simp [tab, List.range_succ]
theorem tab_congr {n : Nat} {f g : Nat → Int} (h : ∀ i, i < n → f i = g i) : tab n f = tab n g :=
  List.map_congr_left (fun i hi => h i (List.mem_range.1 hi))
theorem tab_set (n : Nat) (f : Nat → Int) (o : Nat) (v : Int) : (tab n f).set o v = tab n (fun j => if j = o then v else f j) := by
  apply List.ext_getElem?
  intro i
  by_cases hi : i < n
  · rw [tab_at hi, List.getElem?_set]
    by_cases e : o = i
    · subst e; rw [if_pos rfl, if_pos (by rw [tab_len]; exact hi), if_pos rfl]
    · rw [if_neg e, tab_at hi, if_neg (Ne.symm e)]
  · rw [List.getElem?_eq_none (by rw [List.length_set, tab_len]; omega), List.getElem?_eq_none (by rw [tab_len]; omega)]

theorem IntSl.own {w : World} {lo : Nat} {v : Value} {xs : List Int} (h : IntSl w lo v xs) (hn : 0 < xs.length) : ∃ g cap, v = .slice (some ⟨g, 0, none⟩) xs.length cap ∧ lo ≤ g ∧ g < w.heap.size := World.ownsRow.form h hn

theorem IntSl.cellAt {w : World} {lo g n cap : Nat} {xs : List Int} (h : IntSl w lo (.slice (some ⟨g, 0, none⟩) n cap) xs) {j : Nat} {x : Int} (hx : xs[j]? = some x) : w.cell? ⟨g, j, none⟩ = some (.int .i64 x) := by
  obtain ⟨A, c, e, hI, _⟩ := h.form
  injection e with e1 e2 e3
  subst e1
  obtain ⟨b, off, e, _, hc⟩ := hI j x hx
  injection e with e
  injection e with e1 e2
  subst e1 e2
  rw [Nat.zero_add] at hc
  exact hc

theorem IntSl.frozenAt {w : World} {lo g n cap : Nat} {xs : List Int} (h : IntSl w lo (.slice (some ⟨g, 0, none⟩) n cap) xs) (j : Nat) : w.frozen? ⟨g, j, none⟩ = false := by
  obtain ⟨A, c, e, _, _⟩ := h.form
  injection e with e1 e2 e3
  subst e2
  exact World.ownsRow.frozenAt h j

theorem IntSl.store {w : World} {lo g n cap : Nat} {xs : List Int} (h : IntSl w lo (.slice (some ⟨g, 0, none⟩) n cap) xs) (j : Nat) (x : Int) : IntSl (w.setCell ⟨g, j, none⟩ (.int .i64 x)) lo (.slice (some ⟨g, 0, none⟩) n cap) (xs.set j x) := by
  obtain ⟨A, c, e, _, _⟩ := h.form
  injection e with e1 e2 e3
  subst e2
  have := (World.ownsRow.stored h j (.int .i64 x)).1
  unfold IntSl
  rw [List.map_set, List.length_set]
  exact this

theorem IntSl.grownSet {w : World} {lo g n cap : Nat} {xs : List Int} (h : IntSl w lo (.slice (some ⟨g, 0, none⟩) n cap) xs) (j : Nat) (x : Int) : w.grownBy (w.setCell ⟨g, j, none⟩ (.int .i64 x)) (some g) := by
  obtain ⟨A, c, e, _, _⟩ := h.form
  injection e with e1 e2 e3
  subst e2
  exact (World.ownsRow.stored h j (.int .i64 x)).2

theorem IntSl.drew {w : World} {lo : Nat} {v : Value} {xs : List Int} (h : IntSl w lo v xs) : IntSl w.drew lo v xs := h

/-- Append of one number, at a step of a region that draws its order. -/
theorem step_push_int {W : World} {ops : Array Oper} {o : Oper} {a : Act} {K : Act → World → Prop} {Q : Exit → Act → World → Prop} {E : Prop} (hgd : o.guard = none) (s x : Operand)
    (ho : o.op = .call { callee := .builtin .append, args := #[s, x], argTypes := #[24, 24] }) (lo : Nat) (v : Value) (xs : List Int) (hs : a.eval s = v) (hown : IntSl W lo v xs) (g : Nat) (y : Int)
    (hx : a.eval x = .slice (some ⟨g, 0, none⟩) 1 1) (hg : W.heap[g]? = some (.cells #[.int .i64 y] 3 (0, 0))) (hn : xs.length ≤ 1048576) (hlo : lo ≤ W.heap.size)
    (h : ∀ g' cap w', IntSl w' lo (.slice (some ⟨g', 0, none⟩) (xs.length + 1) cap) (xs ++ [y]) → W.grownBy w' v.ownBlock → K (a.put o.dst (.slice (some ⟨g', 0, none⟩) (xs.length + 1) cap)) w') :
    if Region.wanted o (yielded ops a.tmps) = true then Oper.wp Tryd.prog o a W K Q else E := by
  obtain ⟨i0, hi, hz0, hz1, hz2⟩ := info_parts info3
  refine step_append_lies W hgd s x 24 ho lo 3 i0 (.int .i64 0) 1 8 Tryd.underlying24 hi hz0 hz1 hz2 rfl (by decide) v xs.length (xs.map (.int .i64)) hs hown ⟨g, 0, none⟩ 1 1 [.int .i64 y] hx rfl
    (World.news_of_block (cs := #[.int .i64 y]) hg) (ints_oneCell .i64 [y]) (by decide) (by unfold maxLen; omega) (by omega) hlo _ rfl ?_
  intro g' cap w' h1 h2 _ _
  refine h g' cap w' ?_ h2
  unfold IntSl
  rw [List.length_append, List.map_append]
  exact h1

theorem still_tail_drew {P : Program} {id : Nat} {Q : Exit → Act → World → Prop} {a : Act} {w : World} {l : List Oper} (n : Nat) (hm : P.follows .mixedOrders = true) (hB : Region.lexTailB .any l.toArray n = true)
    (h : wpStill P l.toArray w.drew (fun a' => wpList P l.toArray Q (l.drop n) a' w.drew) (l.take n) a) : (Code.region id l.toArray true).wp P Q a w := wp_region_still_tail n hm hB h

def baseAt (l : List Item) (want stock rs : List Int) (j : Nat) : Int := stock.getD j 0 - want.getD j 0 + rs.getD j 0 * max (l.getD j nil0).yield 1

theorem baseAt_eq {l : List Item} {want stock rs : List Int} {j : Nat} (h : 0 ≤ (l.getD j nil0).yield) : baseAt l want stock rs j = stock.getD j 0 + madeI (l.getD j nil0).yield (rs.getD j 0) - want.getD j 0 := by
  unfold baseAt
  rw [madeI_max h]
  omega

set_option maxRecDepth 100000 in
set_option maxHeartbeats 2000000 in
theorem l1Left_any (A A' A'' B : Option Addr) (c c' c'' d : Nat) (l : List Item) (want stock rs : List Int) (w : World) (hA : ItemsAt w A l) (HI : Hid (itemsOk l = true))
    (hX : IntsAt w A' want) (hY : IntsAt w A'' stock) (hR : IntsAt w B rs) (hxa : want.length ≤ l.length) (hxb : l.length ≤ want.length) (hya : stock.length ≤ l.length) (hyb : l.length ≤ stock.length) (hra : rs.length ≤ l.length) (hrb : l.length ≤ rs.length)
    (HW : Hid (rangeOk 50 want = true)) (HS : Hid (rangeOk 50 stock = true)) (HQ : Hid (rangeOk 9999999 rs = true)) :
    Calls Tryd.prog 101 #[.slice A l.length c, .slice A' want.length c', .slice A'' stock.length c'', .slice B rs.length d] w fun e w' => ∃ v, e = .returned v ∧ IntSl w' w.heap.size v (tab l.length (leftAt l want stock rs)) ∧ Below w.heap.size w w' := by
  have hl6 := itemsOk_len HI.out
  have hown0 : IntSl (w.alloc (.cells #[] 3)) w.heap.size (.slice (some ⟨w.heap.size, 0, none⟩) 0 0) (tab 0 (baseAt l want stock rs)) := World.ownsRow_lit w #[] 0 (Nat.le_refl _) (by unfold maxLen; omega) rfl
  have HO := hide hown0
  obtain ⟨i0, hi, hz0, hz1, hz2⟩ := info_parts info3
  have HII := hide (And.intro hi (And.intro hz0 (And.intro hz1 hz2)))
  clear hown0 hi hz0 hz1 hz2
  go_enter Tryd.func101, Tryd.ntmps101
  go_wp2_with fail
  go_loopw [9, 10] (fun v i wr => ∃ k : Nat, k ≤ l.length ∧ i = .int .i64 k ∧ IntSl wr w.heap.size v (tab k (baseAt l want stock rs)) ∧ Below w.heap.size w wr) (fun _ i _ => l.length - (intOf i).toNat)
  case atStart => exact ⟨0, Nat.zero_le _, rfl, HO.out, by go_grown⟩
  case round =>
    obtain ⟨k, hk, rfl, hS, hb⟩ := hrel
    have hsz := hb.size
    by_cases hlt : k < l.length
    · obtain ⟨bl, offl, Al, cl, rfl, hbl, hi1, hi2, hi3, hpa⟩ := hA k l[k] (List.getElem?_eq_getElem hlt)
      obtain ⟨b2, off2, rfl, hbl2, hs1⟩ := hY k (stock[k]'(by omega)) (List.getElem?_eq_getElem (by omega))
      obtain ⟨b3, off3, rfl, hbl3, hw1⟩ := hX k (want[k]'(by omega)) (List.getElem?_eq_getElem (by omega))
      obtain ⟨b4, off4, rfl, hbl4, hr1⟩ := hR k (rs[k]'(by omega)) (List.getElem?_eq_getElem (by omega))
      have hit := itemsOk_at HI.out (List.getElem?_eq_getElem hlt)
      have hwr := rangeOk_at HW.out (List.getElem?_eq_getElem (show k < want.length by omega))
      have hsr := rangeOk_at HS.out (List.getElem?_eq_getElem (show k < stock.length by omega))
      have hrr := rangeOk_at HQ.out (List.getElem?_eq_getElem (show k < rs.length by omega))
      have HX1 : Hid (l.getD k nil0 = l[k]) := hide (by simp [hlt])
      have HX2 : Hid (stock.getD k 0 = stock[k]'(by omega)) := hide (by simp [show k < stock.length by omega])
      have HX3 : Hid (want.getD k 0 = want[k]'(by omega)) := hide (by simp [show k < want.length by omega])
      have HX4 : Hid (rs.getD k 0 = rs[k]'(by omega)) := hide (by simp [show k < rs.length by omega])
      generalize l[k] = x at *
      generalize (stock[k]'(by omega)) = s at *
      generalize (want[k]'(by omega)) = q at *
      generalize (rs[k]'(by omega)) = r at *
      obtain ⟨y, HY⟩ : ∃ y, Hid (max x.yield 1 = y) := ⟨_, hide rfl⟩
      have hmr := mul6_range (y := y) (r := r) (B := 9999999) (by rw [← HY.out]; omega) (by rw [← HY.out]; omega) hrr.1 hrr.2
      have hm0 := hmr.1
      have hm1 := hmr.2
      have HBV : Hid (baseAt l want stock rs k = s - q + r * y) := hide (by unfold baseAt; rw [HX1.out, HX2.out, HX3.out, HX4.out, HY.out])
      obtain ⟨hs0, hs2⟩ := hsr
      obtain ⟨hq0, hq1⟩ := hwr
      have hz : (0 : Int) ≤ k := by omega
      have hz2 : (k : Int) < l.length := by omega
      have hz3 : (k : Int) < stock.length := by omega
      have hz4 : (k : Int) < want.length := by omega
      have hz5 : (k : Int) < rs.length := by omega
      have hmx : (if x.yield < 1 then (1 : Int) else x.yield) = y := by rw [← HY.out]; split <;> omega
      have hwrap : IntKind.i64.wrap (s - q) = s - q := IntWalk.i64_in _ (by omega)
      have hwrap2 : IntKind.i64.wrap (r * y) = r * y := IntWalk.i64_in _ (by omega)
      have hwrap3 : IntKind.i64.wrap (s - q + r * y) = s - q + r * y := IntWalk.i64_in _ (by omega)
      have HC : Hid (∀ W, Below w.heap.size w W → W.cell? ⟨b2, off2 + k, none⟩ = some (.int .i64 s) ∧ W.cell? ⟨b3, off3 + k, none⟩ = some (.int .i64 q) ∧ W.cell? ⟨b4, off4 + k, none⟩ = some (.int .i64 r) ∧ W.cell? ⟨bl, offl + k * 3, none⟩ = some (.int .i64 x.yield)) := hide (fun W hB => ⟨(hB.cell hbl2).trans hs1, (hB.cell hbl3).trans hw1, (hB.cell hbl4).trans hr1, (hB.cell hbl).trans hi1⟩)
      have HG : Hid (∀ w1, (wr.alloc (.cells #[.int .i64 (s - q + r * y)] 3)).drew.grownBy w1 u9.ownBlock → Below w.heap.size w w1) := hide (fun w1 hg => (hb.alloc hsz _).drew.grown hg (by simp; omega) (fun j hj => (World.ownsRow.lt hS j hj).1))
      have hSa : IntSl (wr.alloc (.cells #[.int .i64 (s - q + r * y)] 3)).drew w.heap.size u9 (tab k (baseAt l want stock rs)) := World.ownsRow.alloc hS _
      have HSa := hide hSa
      clear hit hmr hrr hpa hi1 hi2 hi3 hs1 hw1 hr1 hbl hbl2 hbl3 hbl4 hSa
      go_wp2_with fail
      go_region_held3 (fun W => W.cell? ⟨b2, off2 + k, none⟩ = some (.int .i64 s) ∧ W.cell? ⟨b3, off3 + k, none⟩ = some (.int .i64 q) ∧ W.cell? ⟨b4, off4 + k, none⟩ = some (.int .i64 r) ∧ W.cell? ⟨bl, offl + k * 3, none⟩ = some (.int .i64 x.yield))
        (first | exact HC.out _ hb.drew | exact HC.out _ (hb.alloc hsz _).drew | exact HC.out _ (HG.out _ hgrow))
        ((refine step_push_int (by rfl) _ _ (by rfl) w.heap.size u9 _ (by rfl) HSa.out wr.heap.size (s - q + r * y) (by rfl) (heap_alloc_new wr _) (by rw [tab_len]; omega) (by simp; omega) ?_; intro gg cap w1 hown1 hgrow))
      all_goals
        have hb1 := HG.out _ hgrow
        have hS1 : IntSl w1 w.heap.size (.slice (some ⟨gg, 0, none⟩) ((tab k (baseAt l want stock rs)).length + 1) cap) (tab (k + 1) (baseAt l want stock rs)) := by
          rw [← tab_snoc, HBV.out]; exact hown1
        clear hgrow hown1 hwrap hwrap2 hwrap3 hmx
        go_wp2_with fail
        go_roundw
        case rel => exact ⟨k + 1, hlt, by go_num, hS1, hb1⟩
        case measure => simp [intOf]; omega
    · obtain rfl : k = l.length := by omega
      have hS0 : IntSl wr w.heap.size u9 (tab l.length (fun j => baseAt l want stock rs j - upS l rs j 0)) := by simpa [upS] using hS
      have HS0 := hide hS0
      clear hS hS0
      go_wp2_with fail
      go_loopw [11] (fun i wr => ∃ k : Nat, k ≤ l.length ∧ i = .int .i64 k ∧ IntSl wr w.heap.size u9 (tab l.length (fun j => baseAt l want stock rs j - upS l rs j k)) ∧ Below w.heap.size w wr) (fun i _ => l.length - (intOf i).toNat)
      case atStart => exact ⟨0, Nat.zero_le _, rfl, HS0.out, hb⟩
      case round =>
        clear hb hsz HS0
        obtain ⟨k, hk, rfl, hS, hb⟩ := hrel
        have hsz := hb.size
        by_cases hlt : k < l.length
        · obtain ⟨g, cap, e, hg0, hg1⟩ := hS.own (by rw [tab_len]; omega)
          rw [tab_len] at e
          subst e
          obtain ⟨bl, offl, Al, cl, rfl, hbl, hi1, hi2, hi3, hpa⟩ := hA k l[k] (List.getElem?_eq_getElem hlt)
          obtain ⟨b4, off4, rfl, hbl4, hr1⟩ := hR k (rs[k]'(by omega)) (List.getElem?_eq_getElem (by omega))
          have hit := itemsOk_at HI.out (List.getElem?_eq_getElem hlt)
          have hrr := rangeOk_at HQ.out (List.getElem?_eq_getElem (show k < rs.length by omega))
          have HX1 : Hid (l.getD k nil0 = l[k]) := hide (by simp [hlt])
          have HX4 : Hid (rs.getD k 0 = rs[k]'(by omega)) := hide (by simp [show k < rs.length by omega])
          generalize l[k] = x at *
          generalize (rs[k]'(by omega)) = r at *
          obtain ⟨hr0, hr2⟩ := hrr
          have HPP := hide hit.2.2.2.2.2.2
          have hx3 : x.parts.length ≤ 3 := hit.2.2.2.2.1
          have HPM : Hid (∀ p ∈ x.parts, 0 ≤ p.many ∧ p.many ≤ 6) := hide (fun p hp => by have := HPP.out p hp; omega)
          have hi2w := (hb.cell hbl).trans hi2
          have hz : (0 : Int) ≤ k := by omega
          have hz2 : (k : Int) < l.length := by omega
          have hz5 : (k : Int) < rs.length := by omega
          clear hit hi1 hi3
          have HSS : Hid (IntSl wr w.heap.size (.slice (some ⟨g, 0, none⟩) l.length cap) (tab l.length (fun j => baseAt l want stock rs j - (upS l rs j k + conTo x.parts r j 0)))) := hide (by simpa [conTo] using hS)
          clear hS
          go_wp2_with fail
          obtain ⟨wo, rfl⟩ : ∃ wo : World, wo = wr := ⟨_, rfl⟩
          go_loopw [12] (fun i wr => ∃ m : Nat, m ≤ x.parts.length ∧ i = .int .i64 m ∧ IntSl wr w.heap.size (.slice (some ⟨g, 0, none⟩) l.length cap) (tab l.length (fun j => baseAt l want stock rs j - (upS l rs j k + conTo x.parts r j m))) ∧ Below w.heap.size w wr) (fun i _ => x.parts.length - (intOf i).toNat)
          case atStart => exact ⟨0, Nat.zero_le _, rfl, HSS.out, hb⟩
          case round =>
            clear HSS hi2w hsz hg1
            obtain ⟨m, hm, rfl, hSm, hbm⟩ := hrel
            have hszm := hbm.size
            have hg1 := (World.ownsRow.lt hSm g rfl).2
            have hi2m := (hbm.cell hbl).trans hi2
            have hblm : bl < wr.heap.size := Nat.lt_of_lt_of_le hbl hszm
            by_cases hltm : m < x.parts.length
            · obtain ⟨bp, offp, rfl, hbp, hp1, hp2⟩ := hpa m x.parts[m] (List.getElem?_eq_getElem hltm)
              have hpp := HPP.out _ (List.getElem_mem hltm)
              have HP : Hid (x.parts.getD m ⟨0, 0⟩ = x.parts[m]) := hide (by simp [hltm])
              generalize x.parts[m] = p at *
              obtain ⟨o, ho⟩ : ∃ o : Nat, p.of = o := ⟨p.of.toNat, by omega⟩
              rw [ho] at hp1 hpp
              have HO2 := hide ho
              clear ho
              obtain ⟨hp00, hp01, hp02, hp03⟩ := hpp
              have hol : o < l.length := by omega
              obtain ⟨t, HT⟩ : ∃ t, Hid (baseAt l want stock rs o - (upS l rs o k + conTo x.parts r o m) = t) := ⟨_, hide rfl⟩
              have ht : -2000000000 ≤ t ∧ t ≤ 2000000000 := by
                have a := upS_range (itemsOk_many HI.out) (fun i r h => rangeOk_at HQ.out h) o k
                have b := conTo_range HPM.out hr0 hr2 o m
                have c : -50 ≤ baseAt l want stock rs o ∧ baseAt l want stock rs o ≤ 60000100 := by
                  have hit := itemsOk_at HI.out (List.getElem?_eq_getElem hol)
                  have e1 := rangeOk_at HW.out (List.getElem?_eq_getElem (show o < want.length by omega))
                  have e2 := rangeOk_at HS.out (List.getElem?_eq_getElem (show o < stock.length by omega))
                  have e3 := rangeOk_at HQ.out (List.getElem?_eq_getElem (show o < rs.length by omega))
                  have e4 := madeI_range hit.2.2.1 hit.2.2.2.1 e3.1 e3.2
                  rw [baseAt_eq (by simpa [hol] using hit.2.2.1)]
                  have f1 : want.getD o 0 = want[o]'(by omega) := by simp [show o < want.length by omega]
                  have f2 : stock.getD o 0 = stock[o]'(by omega) := by simp [show o < stock.length by omega]
                  have f3 : rs.getD o 0 = rs[o]'(by omega) := by simp [show o < rs.length by omega]
                  have f4 : l.getD o nil0 = l[o] := by simp [hol]
                  rw [f1, f2, f3, f4]
                  omega
                rw [← HT.out]
                omega
              obtain ⟨ht0, ht1⟩ := ht
              have hmr := mul6_range (y := p.many) (r := r) (B := 9999999) (by omega) hp03 hr0 hr2
              obtain ⟨hmr0, hmr1⟩ := hmr
              have hcell : wr.cell? ⟨g, o, none⟩ = some (.int .i64 t) := hSm.cellAt (by rw [tab_at hol, HT.out])
              have hfz := hSm.frozenAt o
              have hp1m := (hbm.cell hbp).trans hp1
              have hp2m := (hbm.cell hbp).trans hp2
              have hr1m := (hbm.cell hbl4).trans hr1
              have hbpm : bp < wr.heap.size := Nat.lt_of_lt_of_le hbp hszm
              have hblm4 : b4 < wr.heap.size := Nat.lt_of_lt_of_le hbl4 hszm
              have hwrap : IntKind.i64.wrap (r * p.many) = r * p.many := IntWalk.i64_in _ (by omega)
              have hwrap2 : IntKind.i64.wrap (t - r * p.many) = t - r * p.many := IntWalk.i64_in _ (by omega)
              have hzm : (0 : Int) ≤ m := by omega
              have hzm2 : (m : Int) < x.parts.length := by omega
              have hzo : (0 : Int) ≤ o := by omega
              have hzo2 : (o : Int) < l.length := by omega
              have HNX : Hid (IntSl (wr.setCell ⟨g, o, none⟩ (.int .i64 (t - r * p.many))) w.heap.size (.slice (some ⟨g, 0, none⟩) l.length cap) (tab l.length (fun j => baseAt l want stock rs j - (upS l rs j k + conTo x.parts r j (m + 1))))) := hide (by
                have := IntSl.store hSm o (t - r * p.many)
                rw [tab_set] at this
                rw [tab_congr (g := fun j => if j = o then t - r * p.many else baseAt l want stock rs j - (upS l rs j k + conTo x.parts r j m)) (fun j _ => ?_)]
                · exact this
                · show _ = if j = o then t - r * p.many else _
                  rw [conTo_succ, HP.out, HO2.out]
                  by_cases e : j = o
                  · subst e
                    rw [if_pos rfl, if_pos rfl, ← HT.out, Int.mul_comm p.many r]
                    omega
                  · rw [if_neg e, if_neg (by omega), Int.add_zero])
              clear hp1 hp2 hSm
              go_wp2_with fail
              refine still_tail_drew 17 (by kernel_rfl) (by kernel_rfl) ?_
              simp only [List.take_succ_cons, List.take_zero, List.drop_succ_cons, List.drop_zero]
              repeat still_step
              refine wpStill_nil ?_
              go_wp2_with fail
              clear hwrap hwrap2
              go_roundw
              case rel => exact ⟨m + 1, hltm, by go_num, World.ownsRow.alloc HNX.out _, by go_grown⟩
              case measure => simp [intOf]; omega
            · obtain rfl : m = x.parts.length := by omega
              have HSE : Hid (IntSl wr w.heap.size (.slice (some ⟨g, 0, none⟩) l.length cap) (tab l.length (fun j => baseAt l want stock rs j - upS l rs j (k + 1)))) := hide (by
                rw [tab_congr (g := fun j => baseAt l want stock rs j - (upS l rs j k + conTo x.parts r j x.parts.length)) (fun j _ => by rw [upS_succ, HX1.out, HX4.out])]
                exact hSm)
              clear hSm
              go_wp2_with fail
              go_roundw
              case rel => exact ⟨k + 1, hlt, by go_num, HSE.out, hbm⟩
              case measure => simp [intOf]; omega
        · obtain rfl : k = l.length := by omega
          have HSE : Hid (IntSl wr w.heap.size u9 (tab l.length (leftAt l want stock rs))) := hide (by
            rw [tab_congr (g := fun j => baseAt l want stock rs j - upS l rs j l.length) (fun j hj => ?_)]
            · exact hS
            · have hit := itemsOk_at HI.out (List.getElem?_eq_getElem hj)
              show leftAt l want stock rs j = baseAt l want stock rs j - upS l rs j l.length
              rw [baseAt_eq (by simpa [hj] using hit.2.2.1)]
              rfl)
          clear hS
          go_wp2_with fail
          refine bodyPost_ret (results_tmp rfl _ _ _) rfl ⟨u9, rfl, HSE.out, hb⟩
end Go.Proofs.YtgagfaajilbmmaaDoor
