/- Contract of PlanLeast of the reference model: it returns the least plan, in memory of its own.
   Conditions: all lists have at most 1048576 elements; what is wanted is no nil slice. -/
import Derived.Test.YtgagfaajilbmmaaDoorPlanLst
import Derived.Test.YtgagfaajilbmmaaDoorSpread0
import Derived.Test.YtgagfaajilbmmaaDoorSlKit
namespace Go.Proofs.YtgagfaajilbmmaaDoor
open Go.RowKit

theorem planBox0 {w1 : World} {b : Nat} (hbk : w1.heap[b]? = some (.cells #[.slice none 0 0, .slice none 0 0] 26 (0, 0))) :
    ((w1.setCell ⟨b, 0, none⟩ (.slice none 0 0)).setCell ⟨b, 1, none⟩ (.slice none 0 0)).cell? ⟨b, 0, none⟩ = some (.slice none 0 0) ∧ ((w1.setCell ⟨b, 0, none⟩ (.slice none 0 0)).setCell ⟨b, 1, none⟩ (.slice none 0 0)).cell? ⟨b, 1, none⟩ = some (.slice none 0 0) := by
  have hbk2 : ((w1.setCell ⟨b, 0, none⟩ (.slice none 0 0)).setCell ⟨b, 1, none⟩ (.slice none 0 0)).rowIs b 26 2 (fun _ => .slice none 0 0) := by
    have h0 : w1.rowIs b 26 2 (fun _ => .slice none 0 0) := ⟨_, hbk, rfl, fun i hi => by rcases (by omega : i = 0 ∨ i = 1) with rfl | rfl <;> rfl⟩
    exact ((h0.set 0 _).set 1 _).congr (fun i hi => by rcases (by omega : i = 0 ∨ i = 1) with rfl | rfl <;> rfl)
  exact ⟨hbk2.cell (i := 0) (by omega), hbk2.cell (i := 1) (by omega)⟩

theorem tab_id (xs : List Int) (n : Nat) (h : xs.length = n) : tab n (fun j => xs.getD j 0) = xs := by
  apply List.ext_getElem?
  intro i
  by_cases hi : i < n
  · rw [tab_at hi, List.getD_eq_getElem?_getD, List.getElem?_eq_getElem (by omega)]; rfl
  · rw [List.getElem?_eq_none (by rw [tab_len]; omega), List.getElem?_eq_none (by omega)]

theorem l1Left_at (A A' A'' B : Option Addr) (c c' c'' d n : Nat) (l : List Item) (want stock rs : List Int) (w : World) (hn : rs.length = n) (hA : ItemsAt w A l) (HI : Hid (itemsOk l = true))
    (hX : IntsAt w A' want) (hY : IntsAt w A'' stock) (hR : IntsAt w B rs) (hxa : want.length ≤ l.length) (hxb : l.length ≤ want.length) (hya : stock.length ≤ l.length) (hyb : l.length ≤ stock.length) (hra : rs.length ≤ l.length) (hrb : l.length ≤ rs.length)
    (HW : Hid (rangeOk 50 want = true)) (HS : Hid (rangeOk 50 stock = true)) (HQ : Hid (rangeOk 9999999 rs = true)) :
    Calls Tryd.prog 101 #[.slice A l.length c, .slice A' want.length c', .slice A'' stock.length c'', .slice B n d] w fun e w' => ∃ v, e = .returned v ∧ IntSl w' w.heap.size v (tab l.length (leftAt l want stock rs)) ∧ Below w.heap.size w w' := by
  subst hn
  exact l1Left_any A A' A'' B c c' c'' d l want stock rs w hA HI hX hY hR hxa hxb hya hyb hra hrb HW HS HQ

/-- What the loops of the reference model's PlanLeast know. -/
structure SP (l : List Item) (rs : List Int) (nw gN cN gR : Nat) (fN : Nat → Int) (kR : Nat) (w1 wr : World) : Prop where
  below : Below w1.heap.size w1 wr
  nn : IntSl wr w1.heap.size (.slice (some ⟨gN, 0, none⟩) nw cN) (tab l.length fN)
  rr : IntSl wr w1.heap.size (.slice (some ⟨gR, 0, none⟩) l.length l.length) (tab l.length (fun j => if kR ≤ j then rs.getD j 0 else 0))

section
variable {l : List Item} {rs : List Int} {nw gN cN gR kR : Nat} {fN : Nat → Int} {w1 wr W : World}
theorem SP.next (h : SP l rs nw gN cN gR fN kR w1 wr) (hb : Below wr.heap.size wr W) : SP l rs nw gN cN gR fN kR w1 W := ⟨Go.Proofs.YtgagfaajilbmmaaDoor.next h.below hb, h.nn.below hb, h.rr.below hb⟩
theorem SP.drew (h : SP l rs nw gN cN gR fN kR w1 wr) : SP l rs nw gN cN gR fN kR w1 wr.drew := ⟨h.below.drew, h.nn, h.rr⟩
theorem SP.alloc (h : SP l rs nw gN cN gR fN kR w1 wr) (o : Obj) : SP l rs nw gN cN gR fN kR w1 (wr.alloc o) := ⟨h.below.alloc h.below.size o, World.ownsRow.alloc h.nn o, World.ownsRow.alloc h.rr o⟩
theorem SP.lo (h : SP l rs nw gN cN gR fN kR w1 wr) : w1.heap.size ≤ gN ∧ w1.heap.size ≤ gR ∧ gN < wr.heap.size ∧ gR < wr.heap.size := ⟨(World.ownsRow.lt h.nn gN rfl).1, (World.ownsRow.lt h.rr gR rfl).1, (World.ownsRow.lt h.nn gN rfl).2, (World.ownsRow.lt h.rr gR rfl).2⟩
theorem SP.setR {k : Nat} (h : SP l rs nw gN cN gR fN (k + 1) w1 wr) (hne : gN ≠ gR) : SP l rs nw gN cN gR fN k w1 (wr.setCell ⟨gR, k, none⟩ (.int .i64 (rs.getD k 0))) := by
  refine ⟨h.below.grown (grown_set wr gR k _) h.below.size (fun j hj => by injection hj with hj; have := h.lo.2.1; omega), h.nn.row (grown_set wr gR k _) (.inr (fun e => by injection e with e; exact hne e)), ?_⟩
  have := h.rr.store k (rs.getD k 0)
  rw [tab_set] at this
  rw [tab_congr (g := fun j => if j = k then rs.getD k 0 else if k + 1 ≤ j then rs.getD j 0 else 0) (fun j _ => ?_)]
  · exact this
  · show (if k ≤ j then rs.getD j 0 else 0) = if j = k then rs.getD k 0 else if k + 1 ≤ j then rs.getD j 0 else 0
    by_cases e : j = k
    · subst e; rw [if_pos rfl, if_pos (Nat.le_refl _)]
    · rw [if_neg e]
      by_cases e' : k + 1 ≤ j
      · rw [if_pos e', if_pos (by omega)]
      · rw [if_neg e', if_neg (by omega)]
theorem SP.setN {o : Nat} {v : Int} {gN' : Nat → Int} (h : SP l rs nw gN cN gR fN kR w1 wr) (hne : gN ≠ gR) (hv : ∀ j, gN' j = if j = o then v else fN j) : SP l rs nw gN cN gR gN' kR w1 (wr.setCell ⟨gN, o, none⟩ (.int .i64 v)) := by
  refine ⟨h.below.grown (grown_set wr gN o _) h.below.size (fun j hj => by injection hj with hj; have := h.lo.1; omega), ?_, h.rr.row (grown_set wr gN o _) (.inr (fun e => by injection e with e; exact hne e.symm))⟩
  have := h.nn.store o v
  rw [tab_set] at this
  rw [tab_congr (g := fun j => if j = o then v else fN j) (fun j _ => hv j)]
  exact this
theorem SP.congr {f' : Nat → Int} (h : SP l rs nw gN cN gR fN kR w1 wr) (he : ∀ j, j < l.length → fN j = f' j) : SP l rs nw gN cN gR f' kR w1 wr := ⟨h.below, by have := h.nn; rwa [tab_congr he] at this, h.rr⟩
end

set_option maxRecDepth 100000 in
set_option maxHeartbeats 4000000 in
theorem specPlanLeast_any (A A'' : Option Addr) (ad : Addr) (c c' c'' : Nat) (l : List Item) (want stock : List Int) (w : World) (hA : ItemsAt w A l) (hl : l.length ≤ 1048576) (hp : ∀ x ∈ l, x.parts.length ≤ 1048576)
    (hX : IntsAt w (some ad) want) (hx : want.length ≤ 1048576) (hY : IntsAt w A'' stock) (hy : stock.length ≤ 1048576) :
    Calls Tryd.prog 100 #[.slice A l.length c, .slice (some ad) want.length c', .slice A'' stock.length c''] w (PlanRes l want stock w) := by
  have HP := hide hp
  clear hp
  cases hI : itemsOk l with
  | false =>
    have HI := hide hI
    have HE : Hid (amountsOk l want stock = false) := hide (by unfold amountsOk; rw [hI]; rfl)
    clear hI
    go_enter Tryd.func100, Tryd.ntmps100
    go_wp2_with fail
    refine (specItemsValid_any _ _ _ _ (hA.below (by go_grown)) hl HP.out).mono ?_
    rintro e w1 ⟨rfl, hB⟩
    rw [HI.out]
    have hb : Below w.heap.size w w1 := Below.trans (by go_grown) (hB.mono (by simp))
    have hbk : w1.heap[w.heap.size]? = some (.cells #[.slice none 0 0, .slice none 0 0] 26 (0, 0)) := (hB.block w.heap.size (by simp)).trans (heap_alloc_new w _)
    have hf0 := frozen_of_row w1 w.heap.size 0 _ _ hbk
    have hf1 := frozen_of_row w1 w.heap.size 1 _ _ hbk
    have hg0 : w1.cell? ⟨w.heap.size, 0, none⟩ = some (.slice none 0 0) := by rw [cell_of_row w1 _ 0 _ _ _ hbk]; rfl
    have hg1 : w1.cell? ⟨w.heap.size, 1, none⟩ = some (.slice none 0 0) := by rw [cell_of_row w1 _ 1 _ _ _ hbk]; rfl
    obtain ⟨f0, f1⟩ := planBox0 hbk
    have HBK := hide hbk
    clear hbk
    go_wp2_with fail
    refine bodyPost_ret (v := .tuple #[.agg #[.slice none 0 0, .slice none 0 0], .bool false]) (by simp [results, Tryd.results100, go_sem, f0, f1]) rfl ⟨.slice none 0 0, .slice none 0 0, by rw [HE.out], ?_, ?_, .inl rfl, by go_grown⟩
    · unfold planRunsL; rw [HE.out]; exact World.ownsRow_nil _ _ _ _
    · unfold planLeftL; rw [HE.out]; exact World.ownsRow_nil _ _ _ _
  | true =>
    have HI := hide hI
    cases hX1 : amtOk l want with
    | false =>
      have HX := hide hX1
      have HE : Hid (amountsOk l want stock = false) := hide (by unfold amountsOk; rw [hI, hX1]; rfl)
      clear hI hX1
      go_enter Tryd.func100, Tryd.ntmps100
      go_wp2_with fail
      refine (specItemsValid_any _ _ _ _ (hA.below (by go_grown)) hl HP.out).mono ?_
      rintro e w1 ⟨rfl, hB⟩
      rw [HI.out]
      have hb : Below w.heap.size w w1 := Below.trans (by go_grown) (hB.mono (by simp))
      have hbk : w1.heap[w.heap.size]? = some (.cells #[.slice none 0 0, .slice none 0 0] 26 (0, 0)) := (hB.block w.heap.size (by simp)).trans (heap_alloc_new w _)
      have hf0 := frozen_of_row w1 w.heap.size 0 _ _ hbk
      have hf1 := frozen_of_row w1 w.heap.size 1 _ _ hbk
      have hg0 : w1.cell? ⟨w.heap.size, 0, none⟩ = some (.slice none 0 0) := by rw [cell_of_row w1 _ 0 _ _ _ hbk]; rfl
      have hg1 : w1.cell? ⟨w.heap.size, 1, none⟩ = some (.slice none 0 0) := by rw [cell_of_row w1 _ 1 _ _ _ hbk]; rfl
      obtain ⟨f0, f1⟩ := planBox0 hbk
      have HBK := hide hbk
      clear hbk
      go_wp2_with fail
      refine (l1Amounts_any _ _ _ _ _ _ _ (hX.below hb) hx).mono ?_
      rintro e w2 ⟨rfl, rfl⟩
      rw [show (decide ((want.length : Int) = l.length) && rangeOk 50 want) = false from HX.out]
      go_wp2_with fail
      refine bodyPost_ret (v := .tuple #[.agg #[.slice none 0 0, .slice none 0 0], .bool false]) (by simp [results, Tryd.results100, go_sem, f0, f1]) rfl ⟨.slice none 0 0, .slice none 0 0, by rw [HE.out], ?_, ?_, .inl rfl, by go_grown⟩
      · unfold planRunsL; rw [HE.out]; exact World.ownsRow_nil _ _ _ _
      · unfold planLeftL; rw [HE.out]; exact World.ownsRow_nil _ _ _ _
    | true =>
      have HX := hide hX1
      cases hY1 : amtOk l stock with
      | false =>
        have HY := hide hY1
        have HE : Hid (amountsOk l want stock = false) := hide (by unfold amountsOk; rw [hI, hX1, hY1]; rfl)
        clear hI hX1 hY1
        go_enter Tryd.func100, Tryd.ntmps100
        go_wp2_with fail
        refine (specItemsValid_any _ _ _ _ (hA.below (by go_grown)) hl HP.out).mono ?_
        rintro e w1 ⟨rfl, hB⟩
        rw [HI.out]
        have hb : Below w.heap.size w w1 := Below.trans (by go_grown) (hB.mono (by simp))
        have hbk : w1.heap[w.heap.size]? = some (.cells #[.slice none 0 0, .slice none 0 0] 26 (0, 0)) := (hB.block w.heap.size (by simp)).trans (heap_alloc_new w _)
        have hf0 := frozen_of_row w1 w.heap.size 0 _ _ hbk
        have hf1 := frozen_of_row w1 w.heap.size 1 _ _ hbk
        have hg0 : w1.cell? ⟨w.heap.size, 0, none⟩ = some (.slice none 0 0) := by rw [cell_of_row w1 _ 0 _ _ _ hbk]; rfl
        have hg1 : w1.cell? ⟨w.heap.size, 1, none⟩ = some (.slice none 0 0) := by rw [cell_of_row w1 _ 1 _ _ _ hbk]; rfl
        obtain ⟨f0, f1⟩ := planBox0 hbk
        have HBK := hide hbk
        clear hbk
        go_wp2_with fail
        refine (l1Amounts_any _ _ _ _ _ _ _ (hX.below hb) hx).mono ?_
        rintro e w2 ⟨rfl, rfl⟩
        rw [show (decide ((want.length : Int) = l.length) && rangeOk 50 want) = true from HX.out]
        go_wp2_with fail
        refine (l1Amounts_any _ _ _ _ _ _ _ (hY.below hb) hy).mono ?_
        rintro e w2 ⟨rfl, rfl⟩
        rw [show (decide ((stock.length : Int) = l.length) && rangeOk 50 stock) = false from HY.out]
        go_wp2_with fail
        refine bodyPost_ret (v := .tuple #[.agg #[.slice none 0 0, .slice none 0 0], .bool false]) (by simp [results, Tryd.results100, go_sem, f0, f1]) rfl ⟨.slice none 0 0, .slice none 0 0, by rw [HE.out], ?_, ?_, .inl rfl, by go_grown⟩
        · unfold planRunsL; rw [HE.out]; exact World.ownsRow_nil _ _ _ _
        · unfold planLeftL; rw [HE.out]; exact World.ownsRow_nil _ _ _ _
      | true =>
        have HY := hide hY1
        have hI0 : amountsOk l want stock = true := by unfold amountsOk; rw [hI, hX1, hY1]; rfl
        have HE := hide hI0
        obtain ⟨hI2, hI3⟩ := amtOk_at hX1
        obtain ⟨hI4, hI5⟩ := amtOk_at hY1
        obtain ⟨hI2a, hI2b⟩ := eqLe hI2
        obtain ⟨hI4a, hI4b⟩ := eqLe hI4
        have HWL := hide hI2
        have HI3 := hide hI3
        have HI5 := hide hI5
        have hl6 := itemsOk_len hI
        have HFX : Hid (∀ i, i < l.length → (lstL l want stock).getD i 0 = runsI (l.getD i nil0).yield (lackAt l want stock (lstL l want stock) i)) := hide (fun i hi => lstL_at hI hi)
        have HQ2 := hide (lstL_range hI0)
        have HRL := hide (lstL_len l want stock)
        have HLF : Hid (leastLeft l want stock = tab l.length (leftAt l want stock (lstL l want stock))) := hide rfl
        have hra : (lstL l want stock).length ≤ l.length := Nat.le_of_eq (lstL_len l want stock)
        have hrb : l.length ≤ (lstL l want stock).length := Nat.le_of_eq (lstL_len l want stock).symm
        clear hI hI0 hX1 hY1 hI2 hI3 hI4 hI5
        obtain ⟨rs, HRS⟩ : ∃ rs, Hid (lstL l want stock = rs) := ⟨_, hide rfl⟩
        rw [HRS.out] at HFX HQ2 HRL HLF hra hrb
        have hmk : ∀ W, (Instr.makeSlice 24 (.int .i64 (l.length : Int)) (.int .i64 (l.length : Int))).run Tryd.prog W = .ok (.slice (some ⟨W.heap.size, 0, none⟩) l.length l.length) (W.alloc (.cells (madeCells #[.int .i64 0] l.length) 3)) := make_ints l.length hl
        go_enter Tryd.func100, Tryd.ntmps100
        go_wp2_with fail
        refine (specItemsValid_any _ _ _ _ (hA.below (by go_grown)) hl HP.out).mono ?_
        rintro e w1 ⟨rfl, hB⟩
        rw [HI.out]
        have hb : Below w.heap.size w w1 := Below.trans (by go_grown) (hB.mono (by simp))
        have hbk : w1.heap[w.heap.size]? = some (.cells #[.slice none 0 0, .slice none 0 0] 26 (0, 0)) := (hB.block w.heap.size (by simp)).trans (heap_alloc_new w _)
        have hf0 := frozen_of_row w1 w.heap.size 0 _ _ hbk
        have hf1 := frozen_of_row w1 w.heap.size 1 _ _ hbk
        have hg0 : w1.cell? ⟨w.heap.size, 0, none⟩ = some (.slice none 0 0) := by rw [cell_of_row w1 _ 0 _ _ _ hbk]; rfl
        have hg1 : w1.cell? ⟨w.heap.size, 1, none⟩ = some (.slice none 0 0) := by rw [cell_of_row w1 _ 1 _ _ _ hbk]; rfl
        obtain ⟨f0, f1⟩ := planBox0 hbk
        have HBK := hide hbk
        clear hbk
        go_wp2_with fail
        refine (l1Amounts_any _ _ _ _ _ _ _ (hX.below hb) hx).mono ?_
        rintro e w2 ⟨rfl, rfl⟩
        rw [show (decide ((want.length : Int) = l.length) && rangeOk 50 want) = true from HX.out]
        go_wp2_with fail
        refine (l1Amounts_any _ _ _ _ _ _ _ (hY.below hb) hy).mono ?_
        rintro e w2 ⟨rfl, rfl⟩
        rw [show (decide ((stock.length : Int) = l.length) && rangeOk 50 stock) = true from HY.out]
        have HL0 : Hid (IntSl (w1.alloc (.cells #[] 3)) w1.heap.size (.slice (some ⟨w1.heap.size, 0, none⟩) 0 0) []) := hide (World.ownsRow_lit w1 #[] 0 (Nat.le_refl _) (by unfold maxLen; omega) rfl)
        have HX1 : Hid (IntsAt (w1.alloc (.cells #[] 3)) (some ad) want) := hide ((hX.below hb).below (by go_grown))
        clear f0 f1
        go_wp2_with (at_builtin; refine wpList_spread_int rfl _ _ rfl w1.heap.size (.slice (some ⟨w1.heap.size, 0, none⟩) 0 0) [] rfl HL0.out (by simp) ad want.length c' want rfl rfl HX1.out (by simp; omega) (by simp) ?_; intro gN cN w3 hown hgrow; have hB3 : Below w1.heap.size w1 w3 := (Below.alloc (Below.refl _ _) (Nat.le_refl _) _).grown hgrow (by simp) (fun j hj => by have hj : some w1.heap.size = some j := hj; injection hj with hj; omega); have HO3 : Hid (IntSl w3 w1.heap.size (.slice (some ⟨gN, 0, none⟩) want.length cN) want) := hide (by rw [List.length_nil, Nat.zero_add] at hown; exact hown); clear hown hgrow; simp only [List.length_nil, Nat.zero_add])
        have HZ3 : Hid (IntSl (w3.alloc (.cells (madeCells #[.int .i64 0] l.length) 3)) w1.heap.size (.slice (some ⟨w3.heap.size, 0, none⟩) l.length l.length) (tab l.length (fun _ => 0))) := hide (zeros_tabG w3 l.length hB3.size hl)
        have HB3 := hide hB3
        have hgl3 := World.ownsRow.lt HO3.out gN rfl
        have HNE : Hid (gN ≠ w3.heap.size) := hide (by omega)
        have HGL := hide hgl3
        clear hB3 hmk hgl3
        go_loopw [10] (fun i wr => ∃ (k : Nat) (j : Int), k ≤ l.length ∧ j + 1 = k ∧ i = .int .i64 j ∧ SP l rs want.length gN cN w3.heap.size (fun j => want.getD j 0 + (upS l rs j l.length - upS l rs j k)) k w1 wr) (fun i _ => (intOf i + 1).toNat)
        case atStart =>
          refine ⟨l.length, (l.length : Int) - 1, Nat.le_refl _, by omega, rfl, HB3.out.alloc HB3.out.size _, ?_, ?_⟩
          · rw [tab_congr (g := fun j => want.getD j 0) (fun j _ => by omega), tab_id want l.length HWL.out]
            exact World.ownsRow.alloc HO3.out _
          · rw [tab_congr (g := fun _ => 0) (fun j hj => if_neg (by omega))]
            exact HZ3.out
        case round =>
          obtain ⟨k, j, hk, hjk, rfl, hP⟩ := hrel
          clear HZ3 HO3 HB3
          generalize w3.heap.size = gR at *
          have hbr : Below w.heap.size w wr := next hb hP.below
          rcases Nat.eq_zero_or_pos k with hk0 | hk0
          · subst hk0
            obtain rfl : j = -1 := by omega
            have HP0 := hide hP
            have hRR : IntSl wr w1.heap.size (.slice (some ⟨gR, 0, none⟩) l.length l.length) rs := by
              have := hP.rr
              rwa [tab_congr (g := fun j => rs.getD j 0) (fun j _ => if_pos (Nat.zero_le _)), tab_id rs l.length HRL.out] at this
            have HRR := hide hRR
            clear hRR hP
            go_wp2_with fail
            refine (l1Left_at _ _ _ _ _ _ _ _ _ _ _ _ _ _ HRL.out (hA.below hbr) HI (hX.below hbr) (hY.below hbr) (IntSl.ints HRR.out) hI2a hI2b hI4a hI4b hra hrb HI3 HI5 HQ2).mono ?_
            rintro e w4 ⟨v, rfl, hS, hB4⟩
            have hb4 := next hbr hB4
            obtain ⟨A4, c4, rfl, -, -⟩ := hS.form
            have hR1 := HP0.out.lo.2
            have hbR : w4.heap[w.heap.size]? = some (.cells #[.slice none 0 0, .slice none 0 0] 26 (0, 0)) := (hB4.block _ (Nat.lt_of_lt_of_le (heap_ltP HBK.out) HP0.out.below.size)).trans ((HP0.out.below.block _ (heap_ltP HBK.out)).trans HBK.out)
            have hf0' := frozen_of_row w4 w.heap.size 0 _ _ hbR
            have hf1' := frozen_of_row w4 w.heap.size 1 _ _ hbR
            have hg0' : w4.cell? ⟨w.heap.size, 0, none⟩ = some (.slice none 0 0) := by rw [cell_of_row w4 _ 0 _ _ _ hbR]; rfl
            have hg1' : w4.cell? ⟨w.heap.size, 1, none⟩ = some (.slice none 0 0) := by rw [cell_of_row w4 _ 1 _ _ _ hbR]; rfl
            have HBR := hide hbR
            have HS := hide hS
            have HR4 := hide (HRR.out.below hB4)
            clear hS hbR hB4
            rw [tab_len] at HS ⊢
            go_wp2_with fail
            have hbk2 : ((w4.setCell ⟨w.heap.size, 0, none⟩ (.slice (some ⟨gR, 0, none⟩) l.length l.length)).setCell ⟨w.heap.size, 1, none⟩ (.slice A4 l.length c4)).rowIs w.heap.size 26 2 (fun j => if j = 0 then .slice (some ⟨gR, 0, none⟩) l.length l.length else .slice A4 l.length c4) := by
              have h0 : w4.rowIs w.heap.size 26 2 (fun _ => .slice none 0 0) := ⟨_, HBR.out, rfl, fun i hi => by rcases (by omega : i = 0 ∨ i = 1) with rfl | rfl <;> rfl⟩
              exact ((h0.set 0 _).set 1 _).congr (fun i hi => by rcases (by omega : i = 0 ∨ i = 1) with rfl | rfl <;> rfl)
            have f0 := hbk2.cell (i := 0) (by omega)
            have f1 := hbk2.cell (i := 1) (by omega)
            rw [if_pos rfl] at f0
            rw [if_neg (by omega)] at f1
            have hRw : w.heap.size < w1.heap.size := heap_ltP HBK.out
            have hww : w1.heap.size ≤ wr.heap.size := HP0.out.below.size
            have s1 : IntSl ((w4.setCell ⟨w.heap.size, 0, none⟩ (.slice (some ⟨gR, 0, none⟩) l.length l.length)).setCell ⟨w.heap.size, 1, none⟩ (.slice A4 l.length c4)) w.heap.size (.slice (some ⟨gR, 0, none⟩) l.length l.length) rs :=
              ((HR4.out.row (grown_set _ _ _ _) (.inr (fun e => by have e : some gR = some w.heap.size := e; injection e with e; have := HP0.out.lo.2.1; omega))).row (grown_set _ _ _ _) (.inr (fun e => by have e : some gR = some w.heap.size := e; injection e with e; have := HP0.out.lo.2.1; omega))).mono (by omega)
            have s2 : IntSl ((w4.setCell ⟨w.heap.size, 0, none⟩ (.slice (some ⟨gR, 0, none⟩) l.length l.length)).setCell ⟨w.heap.size, 1, none⟩ (.slice A4 l.length c4)) w.heap.size (.slice A4 l.length c4) (tab l.length (leftAt l want stock rs)) :=
              ((HS.out.row (grown_set _ _ _ _) (.inr (fun e => by have := (World.ownsRow.lt HS.out _ e).1; omega))).row (grown_set _ _ _ _) (.inr (fun e => by have := (World.ownsRow.lt HS.out _ e).1; omega))).mono (by omega)
            refine bodyPost_ret (v := .tuple #[.agg #[.slice (some ⟨gR, 0, none⟩) l.length l.length, .slice A4 l.length c4], .bool true]) (by simp [results, Tryd.results100, go_sem, f0, f1]) rfl ⟨_, _, by rw [HE.out], ?_, ?_, .inr (fun e => by have := (World.ownsRow.lt HS.out gR e.symm).1; have := HP0.out.lo.2.2.2; omega), by go_grown⟩
            · unfold planRunsL; rw [HE.out, if_pos rfl, HRS.out]; exact s1
            · unfold planLeftL; rw [HE.out, if_pos rfl, HLF.out]; exact s2
          · obtain ⟨k, rfl⟩ : ∃ k', k = k' + 1 := ⟨k - 1, by omega⟩
            have hlt : k < l.length := by omega
            obtain rfl : j = (k : Int) := by omega
            obtain ⟨bl, offl, Al, cl, rfl, hbl, hi1, hi2, hi3, hpa⟩ := (hA.below hb) k l[k] (List.getElem?_eq_getElem hlt)
            obtain ⟨b2, off2, rfl, hbl2, hs1⟩ := (hY.below hb) k (stock[k]'(by omega)) (List.getElem?_eq_getElem (by omega))
            have hit := itemsOk_at HI.out (List.getElem?_eq_getElem hlt)
            have hwq := getD_rng HI3.out (by omega) k
            have hsr := rangeOk_at HI5.out (List.getElem?_eq_getElem (show k < stock.length by omega))
            have hrr := getD_rng HQ2.out (by omega) k
            have HX1b : Hid (l.getD k nil0 = l[k]) := hide (by simp [hlt])
            have HX2 : Hid (stock.getD k 0 = stock[k]'(by omega)) := hide (by simp [show k < stock.length by omega])
            generalize l[k] = x at *
            generalize (stock[k]'(by omega)) = s at *
            obtain ⟨q, HX3⟩ : ∃ q, Hid (want.getD k 0 = q) := ⟨_, hide rfl⟩
            rw [HX3.out] at hwq
            obtain ⟨r, HX4⟩ : ∃ r, Hid (rs.getD k 0 = r) := ⟨_, hide rfl⟩
            rw [HX4.out] at hrr
            obtain ⟨u, HU⟩ : ∃ u, Hid (upS l rs k l.length = u) := ⟨_, hide rfl⟩
            have hu := upS_range (itemsOk_many HI.out) (fun i r h => rangeOk_at HQ2.out h) k l.length
            rw [HU.out] at hu
            have hu0 : 0 ≤ u := hu.1
            have hu1 : u ≤ 1079999892 := by omega
            have HUS : Hid (upS l rs k (k + 1) = 0) := hide (upS_same (itemsOk_less HI.out) _ (Nat.le_refl _))
            obtain ⟨N, HN⟩ : ∃ N, Hid (q + u = N) := ⟨_, hide rfl⟩
            obtain ⟨L, HL⟩ : ∃ L, Hid (N - s = L) := ⟨_, hide rfl⟩
            obtain ⟨Lp, HLp⟩ : ∃ Lp, Hid (max L 0 = Lp) := ⟨_, hide rfl⟩
            obtain ⟨y, HYm⟩ : ∃ y, Hid (max x.yield 1 = y) := ⟨_, hide rfl⟩
            have hy0 : 0 ≤ x.yield := hit.2.2.1
            have hy1 : x.yield ≤ 6 := hit.2.2.2.1
            have HRI : Hid ((Lp + y - 1) / y = r) := hide (by
              have := HFX.out k hlt
              unfold lackAt at this
              rw [HX1b.out, HX2.out, HX3.out, HX4.out, HU.out, HN.out, HL.out, runsI_max hy0, HLp.out, HYm.out] at this
              exact this.symm)
            have hyp : 1 ≤ y := by rw [← HYm.out]; omega
            have hyq : y ≤ 6 := by rw [← HYm.out]; omega
            have hmx : (if x.yield < 1 then (1 : Int) else x.yield) = y := by rw [← HYm.out]; split <;> omega
            have hmx2 : (if L < 0 then (0 : Int) else L) = Lp := by rw [← HLp.out]; split <;> omega
            have hs0 : 0 ≤ s := hsr.1
            have hs2 : s ≤ 50 := hsr.2
            have hq0 : 0 ≤ q := hwq.1
            have hq1 : q ≤ 50 := hwq.2
            have hr0 : 0 ≤ r := hrr.1
            have hr2 : r ≤ 9999999 := hrr.2
            have hN0 : 0 ≤ N := by rw [← HN.out]; omega
            have hN1 : N ≤ 1079999942 := by rw [← HN.out]; omega
            have hLp0 : 0 ≤ Lp := by rw [← HLp.out]; omega
            have hLp1 : Lp ≤ 1079999942 := by rw [← HLp.out, ← HL.out]; omega
            have HIT := hide hit
            have HPP : Hid (∀ p ∈ x.parts, 0 ≤ p.of ∧ p.of < (k : Int) ∧ 1 ≤ p.many ∧ p.many ≤ 6) := hide hit.2.2.2.2.2.2
            have hx3 : x.parts.length ≤ 3 := hit.2.2.2.2.1
            have hz : (0 : Int) ≤ k := by omega
            have hz2 : (k : Int) < l.length := by omega
            have hz3 : (k : Int) < stock.length := by omega
            have hz4 : (k : Int) < want.length := by omega
            have HS9 : Hid (∀ W kR, SP l rs want.length gN cN gR (fun j => want.getD j 0 + (upS l rs j l.length - upS l rs j (k + 1))) kR w1 W → W.cell? ⟨gN, k, none⟩ = some (.int .i64 N) ∧ W.cell? ⟨b2, off2 + k, none⟩ = some (.int .i64 s) ∧ W.cell? ⟨gR, k, none⟩ = some (cv W ⟨gR, k, none⟩) ∧ W.frozen? ⟨gR, k, none⟩ = false) := hide (fun W kR h => ⟨h.nn.cellAt (by rw [tab_at hlt, HX3.out, HU.out, HUS.out, ← HN.out, Int.sub_zero]), (h.below.cell hbl2).trans hs1, cv_of (h.rr.cellAt (tab_at hlt)), h.rr.frozenAt k⟩)
            have HSR : Hid (∀ W fN, SP l rs want.length gN cN gR fN (k + 1) w1 W → SP l rs want.length gN cN gR fN k w1 (W.setCell ⟨gR, k, none⟩ (.int .i64 r))) := hide (fun W fN h => by have := h.setR HNE.out; rwa [HX4.out] at this)
            have HPd := hide hP.drew
            have HPr := hide hP
            have hyne : ¬ y = 0 := by omega
            have hwr : IntKind.i64.wrap r = r := IntWalk.i64_in _ (by omega)
            have hq1a : (Lp + y - 1) / y = r := HRI.out
            have hq1b : (Lp + y - 1).tdiv y = r := by rw [Int.tdiv_eq_ediv_of_nonneg (by omega)]; exact HRI.out
            have hw1' : IntKind.i64.wrap (N - s) = L := by rw [HL.out]; exact IntWalk.i64_in _ (by rw [← HL.out]; omega)
            have hw2 : IntKind.i64.wrap (Lp + y) = Lp + y := IntWalk.i64_in _ (by omega)
            have hw3 : IntKind.i64.wrap (Lp + y - 1) = Lp + y - 1 := IntWalk.i64_in _ (by omega)
            have hyc := (hP.below.cell hbl).trans hi1
            have hblr : bl < wr.heap.size := Nat.lt_of_lt_of_le hbl hP.below.size
            clear hit hsr hrr hu hP hs1 hi1 hi3
            go_wp2_with fail
            clear hyc hmx hblr
            go_region_held3 (fun W => W.cell? ⟨gN, k, none⟩ = some (.int .i64 N) ∧ W.cell? ⟨b2, off2 + k, none⟩ = some (.int .i64 s) ∧ W.cell? ⟨gR, k, none⟩ = some (cv W ⟨gR, k, none⟩) ∧ W.frozen? ⟨gR, k, none⟩ = false)
              (first | exact HS9.out _ _ HPd.out | exact HS9.out _ _ (HSR.out _ _ HPr.out).drew | exact HS9.out _ _ (HSR.out _ _ HPd.out))
              (first | fail)
            all_goals
              have HP10 : Hid (SP l rs want.length gN cN gR (fun j => want.getD j 0 + (upS l rs j l.length - upS l rs j (k + 1)) + conTo x.parts r j 0) k w1 (wr.setCell ⟨gR, k, none⟩ (.int .i64 r)).drew) := hide ((HSR.out _ _ HPr.out).drew.congr (fun j _ => by simp [conTo]))
              have HBL := hide hbl
              clear hq1a hq1b hw1' hw2 hw3 hmx2 HPd HPr HS9 HSR hyne
              have hi2w := (HP10.out.below.cell hbl).trans hi2
              have hblr := Nat.lt_of_lt_of_le hbl HP10.out.below.size
              go_wp2_with fail
              go_loopw [12] (fun i wr => ∃ m : Nat, m ≤ x.parts.length ∧ i = .int .i64 m ∧ SP l rs want.length gN cN gR (fun j => want.getD j 0 + (upS l rs j l.length - upS l rs j (k + 1)) + conTo x.parts r j m) k w1 wr) (fun i _ => x.parts.length - (intOf i).toNat)
              case atStart => exact ⟨0, Nat.zero_le _, rfl, HP10.out⟩
              case round =>
                clear HP10 hi2w hblr hbr
                obtain ⟨m, hm, rfl, hPm⟩ := hrel
                have hi2m := (hPm.below.cell hbl).trans hi2
                have hblm := Nat.lt_of_lt_of_le hbl hPm.below.size
                by_cases hltm : m < x.parts.length
                · obtain ⟨bp, offp, rfl, hbp, hp1, hp2⟩ := hpa m x.parts[m] (List.getElem?_eq_getElem hltm)
                  have hpp := HPP.out _ (List.getElem_mem hltm)
                  have HPg : Hid (x.parts.getD m ⟨0, 0⟩ = x.parts[m]) := hide (by simp [hltm])
                  generalize x.parts[m] = p at *
                  obtain ⟨o, ho⟩ : ∃ o : Nat, p.of = o := ⟨p.of.toNat, by omega⟩
                  rw [ho] at hp1 hpp
                  have HO2 := hide ho
                  clear ho
                  obtain ⟨hp00, hp01, hp02, hp03⟩ := hpp
                  have hol : o < l.length := by omega
                  obtain ⟨t, HT⟩ : ∃ t, Hid (want.getD o 0 + (upS l rs o l.length - upS l rs o (k + 1)) + conTo x.parts r o m = t) := ⟨_, hide rfl⟩
                  have ht : 0 ≤ t ∧ t ≤ 3000000000 := by
                    have a := upS_range (itemsOk_many HI.out) (fun i r h => rangeOk_at HQ2.out h) o l.length
                    have a2 := upS_range (itemsOk_many HI.out) (fun i r h => rangeOk_at HQ2.out h) o (k + 1)
                    have a3 := upS_mono (itemsOk_many HI.out) (fun i r h => rangeOk_at HQ2.out h) o (k + 1) l.length hlt
                    have b := conTo_range (fun p hp => ⟨by have := (HPP.out p hp).2.2.1; omega, (HPP.out p hp).2.2.2⟩) hr0 hr2 o m
                    have c := getD_rng HI3.out (by omega) o
                    rw [← HT.out]
                    omega
                  obtain ⟨ht0, ht1⟩ := ht
                  obtain ⟨hmr0, hmr1⟩ := mul6_range (y := p.many) (r := r) (B := 9999999) (by omega) hp03 hr0 hr2
                  have hcell : wr.cell? ⟨gN, o, none⟩ = some (.int .i64 t) := hPm.nn.cellAt (by rw [tab_at hol, HT.out])
                  have hfz := hPm.nn.frozenAt o
                  have hrc : wr.cell? ⟨gR, k, none⟩ = some (.int .i64 r) := hPm.rr.cellAt (by rw [tab_at hlt, if_pos (Nat.le_refl _), HX4.out])
                  have hp1m := (hPm.below.cell hbp).trans hp1
                  have hp2m := (hPm.below.cell hbp).trans hp2
                  have hbpm : bp < wr.heap.size := Nat.lt_of_lt_of_le hbp hPm.below.size
                  have hgNm : gN < wr.heap.size := hPm.lo.2.2.1
                  have hgRm : gR < wr.heap.size := hPm.lo.2.2.2
                  have hwrap : IntKind.i64.wrap (r * p.many) = r * p.many := IntWalk.i64_in _ (by omega)
                  have hwrap2 : IntKind.i64.wrap (t + r * p.many) = t + r * p.many := IntWalk.i64_in _ (by omega)
                  have hzm : (0 : Int) ≤ m := by omega
                  have hzm2 : (m : Int) < x.parts.length := by omega
                  have hzo : (0 : Int) ≤ o := by omega
                  have hzo2 : (o : Int) < want.length := by omega
                  have HNX : Hid (SP l rs want.length gN cN gR (fun j => want.getD j 0 + (upS l rs j l.length - upS l rs j (k + 1)) + conTo x.parts r j (m + 1)) k w1 (wr.setCell ⟨gN, o, none⟩ (.int .i64 (t + r * p.many)))) := hide (hPm.setN HNE.out (fun j => by
                    rw [conTo_succ, HPg.out, HO2.out]
                    by_cases e : j = o
                    · subst e
                      rw [if_pos rfl, if_pos rfl, ← HT.out, Int.mul_comm p.many r]
                      omega
                    · rw [if_neg e, if_neg (by omega), Int.add_zero]))
                  clear hp1 hp2 hPm
                  go_wp2_with fail
                  refine still_tail_drew 17 (by kernel_rfl) (by kernel_rfl) ?_
                  simp only [List.take_succ_cons, List.take_zero, List.drop_succ_cons, List.drop_zero]
                  repeat still_step
                  refine wpStill_nil ?_
                  go_wp2_with fail
                  clear hwrap hwrap2
                  go_roundw
                  case rel => exact ⟨m + 1, hltm, by go_num, (HNX.out.alloc _).drew⟩
                  case measure => simp [intOf]; omega
                · obtain rfl : m = x.parts.length := by omega
                  have HPe : Hid (SP l rs want.length gN cN gR (fun j => want.getD j 0 + (upS l rs j l.length - upS l rs j k)) k w1 wr) := hide (hPm.congr (fun j _ => by
                    rw [upS_succ l rs j k, HX1b.out, HX4.out]; omega))
                  clear hPm
                  go_wp2_with fail
                  go_roundw
                  case rel => exact ⟨k, (k : Int) - 1, by omega, by omega, by go_num, HPe.out⟩
                  case measure => simp [intOf]
end Go.Proofs.YtgagfaajilbmmaaDoor
