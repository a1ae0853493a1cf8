/- House1: contracts of HouseValid of the program and of the reference model.
   Conditions: the table of the states' pieces lies as laid (the program's). -/
import Derived.Test.YtmepnilnlpoodaaDoorHseMem
import Derived.Test.YtmepnilnlpoodaaDoorTick2
import Derived.Test.YtmepnilnlpoodaaDoorFree
import Derived.Test.YtmepnilnlpoodaaDoorPrices
import Derived.Test.YtmepnilnlpoodaaDoorPlan
import Derived.Test.YtmepnilnlpoodaaDoorOrders0
namespace Go.Proofs.YtmepnilnlpoodaaDoor
open Go.RowKit Go.ChangeShapes Go.WideShapes Go.ChangeAt Go.Deep

def tblOk (l : List Item) (x : Tbl) : Bool := inR x.avoid 0 31 && (ticketOkL x.dishes && (decide ((x.of.length : Int) = x.dishes.length) && x.of.all (hasI (freeL l x.avoid))))
def houseOk (h : Hse) : Bool := pricesOk h.items h.prices && ((decide ((h.stock.length : Int) = h.items.length) && rangeOk 50 h.stock) && (inR h.cash 0 99999 && (decide (h.tables.length ≤ 4) && h.tables.all (tblOk h.items))))

theorem freeFrom_lenH (l : List Item) (avoid : Int) : ∀ (r : List Item) (k : Nat), (freeFrom l avoid k r).length ≤ r.length
  | [], _ => Nat.le_refl _
  | x :: r, k => by
    unfold freeFrom
    have := freeFrom_lenH l avoid r (k + 1)
    rw [List.length_append, List.length_cons]
    split <;> simp <;> omega
theorem freeL_lenH (l : List Item) (avoid : Int) : (freeL l avoid).length ≤ l.length := by
  unfold freeL
  split
  · exact freeFrom_lenH l avoid l 0
  · simp

set_option maxHeartbeats 400000 in
theorem slicesIndex_two (A : Option Addr) (c : Nat) (xs : List Int) (v : Int) (w : World) (hA : IntsAt w A xs) (hl : xs.length ≤ 1048576) :
    Calls Tryd.prog 122 #[.slice A xs.length c, .int .i64 v] w fun e w' => (∃ j : Int, e = .returned (.int .i64 j) ∧ (0 ≤ j ↔ hasI xs v = true)) ∧ w' = w := by
  go_enter Tryd.func122, Tryd.ntmps122
  go_wp2_with fail
  go_loopw [8] (fun i wr => ∃ (k : Nat), k ≤ xs.length ∧ i = .int .i64 k ∧ Hid (hasI xs v = hasI (xs.drop k) v) ∧ wr = w) (fun i _ => xs.length - (intOf i).toNat)
  case atStart => exact ⟨0, Nat.zero_le _, rfl, hide (by simp), rfl⟩
  case round =>
    obtain ⟨k, hk, rfl, HG, rfl⟩ := hrel
    by_cases hlt : k < xs.length
    · obtain ⟨b, off, rfl, hbl, hc1⟩ := hA k xs[k] (List.getElem?_eq_getElem hlt)
      have HD : Hid (xs.drop k = xs[k] :: xs.drop (k + 1)) := hide (List.drop_eq_getElem_cons hlt)
      generalize xs[k] = p at *
      have hz : (0 : Int) ≤ k := by omega
      have hz2 : (k : Int) < xs.length := by omega
      by_cases hp : v = p
      · have H3 : Hid (hasI xs v = true) := hide (by rw [HG.out, HD.out]; unfold hasI; rw [List.any_cons, hp]; simp)
        have hp2 : (v == p) = true := by simpa using hp
        clear hp
        go_wp2_with fail
        go_ret
        exact ⟨⟨_, rfl, by rw [H3.out]; simp⟩, rfl⟩
      · have H3 : Hid (hasI xs v = hasI (xs.drop (k + 1)) v) := hide (by rw [HG.out, HD.out]; unfold hasI; rw [List.any_cons, beq_false_of_ne (fun e => hp e.symm), Bool.false_or])
        have hp2 : (v == p) = false := by simpa using hp
        clear hp
        go_wp2_with fail
        go_roundw
        case rel => exact ⟨k + 1, hlt, by go_num, H3, trivial⟩
        case measure => simp [intOf]; omega
    · have H3 : Hid (hasI xs v = false) := hide (by rw [HG.out, List.drop_of_length_le (by omega)]; rfl)
      go_wp2_with fail
      go_ret
      exact ⟨⟨_, rfl, by rw [H3.out]; decide⟩, rfl⟩

theorem contains_any (A : Option Addr) (c : Nat) (xs : List Int) (v : Int) (w : World) (hA : IntsAt w A xs) (hl : xs.length ≤ 1048576) :
    Calls Tryd.prog 100 #[.slice A xs.length c, .int .i64 v] w fun e w' => e = .returned (.bool (hasI xs v)) ∧ w' = w := by
  obtain ⟨β, HB⟩ : ∃ β, Hid (hasI xs v = β) := ⟨_, hide rfl⟩
  rw [HB.out]
  go_enter Tryd.func100, Tryd.ntmps100
  go_wp2_with fail
  refine (slicesIndex_two _ _ _ _ _ hA hl).mono ?_
  rintro e w1 ⟨⟨j, rfl, hj⟩, rfl⟩
  rw [HB.out] at hj
  have hd : decide (0 ≤ j) = β := by
    by_cases h : 0 ≤ j
    · rw [decide_eq_true h, hj.1 h]
    · rw [decide_eq_false h]
      cases β with
      | true => exact absurd (hj.2 rfl) h
      | false => rfl
  go_wp2_with fail
  go_ret
  exact ⟨rfl, rfl⟩

theorem box3_cells {W : World} {X : Nat} {t : TypeId} {a b c : Value} (h : W.heap[X]? = some (.cells #[a, b, c] t (0, 0))) :
    W.cell? ⟨X, 0, none⟩ = some a ∧ W.cell? ⟨X, 1, none⟩ = some b ∧ W.cell? ⟨X, 2, none⟩ = some c :=
  ⟨by rw [cell_of_row _ _ 0 _ _ _ h]; rfl, by rw [cell_of_row _ _ 1 _ _ _ h]; rfl, by rw [cell_of_row _ _ 2 _ _ _ h]; rfl⟩
/-- A table as a value. -/
abbrev tblV (A : Option Addr) (a : Nat) (B : Option Addr) (b : Nat) (x : Tbl) : Value := .agg #[.int .i64 x.avoid, .slice A x.dishes.length a, .slice B x.of.length b]

set_option maxRecDepth 100000 in
set_option maxHeartbeats 4000000 in
theorem tableFits_any (A B L : Option Addr) (a b c : Nat) (x : Tbl) (l : List Item) (w : World) (hA : OrdersAt w A x.dishes) (hB : IntsAt w B x.of) (hx : TblLe 1048576 x) (hL : ItemsAt w L l) (hl : l.length ≤ 1048576) (hp : ∀ x ∈ l, x.parts.length ≤ 1048576) (hT : PiecesAt w) :
    Calls Tryd.prog 74 #[tblV A a B b x, .slice L l.length c] w fun e w' => e = .returned (.bool (tblOk l x)) ∧ Below w.heap.size w w' := by
  obtain ⟨hx1, hx2⟩ := hx
  have HP := hide hp
  clear hp
  have hba : Below w.heap.size w (w.alloc (.cells #[.int .i64 x.avoid, .slice A x.dishes.length a, .slice B x.of.length b] 115)) := by go_grown
  have hbx := heap_alloc_new w (.cells #[.int .i64 x.avoid, .slice A x.dishes.length a, .slice B x.of.length b] 115)
  obtain ⟨r, HR⟩ : ∃ r, Hid (tblOk l x = r) := ⟨_, hide rfl⟩
  rw [HR.out]
  go_enter Tryd.func74, Tryd.ntmps74
  go_upto_region 1 with fail
  obtain ⟨W, hW⟩ : ∃ W, w.alloc (.cells #[.int .i64 x.avoid, .slice A x.dishes.length a, .slice B x.of.length b] 115) = W := ⟨_, rfl⟩
  rw [hW] at hba hbx ⊢
  clear hW
  have hA1 := hA.below hba
  have hB1 := hB.below hba
  have hL1 := hL.below hba
  have hT1 := hT.below hba
  obtain ⟨c0, c1, c2⟩ := box3_cells hbx
  obtain ⟨β1, hβ1⟩ : ∃ β, inR x.avoid 0 31 = β := ⟨_, rfl⟩
  have HI := hide (fun W => inRange_is x.avoid 0 31 β1 (hide hβ1) W)
  go_wp2_with fail
  refine (HI.out W).mono ?_
  rintro e W1 ⟨rfl, h12⟩
  have h12 : W1 = W := by first | exact h12 | exact h12.symm
  subst W1
  cases β1 with
  | false =>
    have hr : r = false := by rw [← HR.out]; unfold tblOk; rw [hβ1]; rfl
    subst hr
    clear hβ1
    go_wp2_with fail
    go_ret
    exact ⟨rfl, hba⟩
  | true =>
    obtain ⟨β2, hβ2⟩ : ∃ β, ticketOkL x.dishes = β := ⟨_, rfl⟩
    go_wp2_with fail
    refine (implTicketValid_any _ _ _ _ hA1 hx1 hT1).mono ?_
    rintro e W2 ⟨rfl, hB2⟩
    rw [hβ2]
    have hb2 := next hba hB2
    have hbx2 := (hB2.block w.heap.size (heap_ltH hbx)).trans hbx
    obtain ⟨d0, d1, d2⟩ := box3_cells hbx2
    cases β2 with
    | false =>
      have hr : r = false := by rw [← HR.out]; unfold tblOk; rw [hβ1, hβ2]; rfl
      subst hr
      clear hβ1 hβ2 c0 c1 c2
      go_wp2_with fail
      go_ret
      exact ⟨rfl, hb2⟩
    | true =>
      by_cases hn : (x.of.length : Int) = x.dishes.length
      · have hne : ((x.of.length : Int) != (x.dishes.length : Int)) = false := by rw [hn]; simp
        have HQ : Hid (r = x.of.all (hasI (freeL l x.avoid))) := hide (by rw [← HR.out]; unfold tblOk; rw [hβ1, hβ2, decide_eq_true hn]; rfl)
        have HB1 := hide hB1
        have hL2 := hL1.below hB2
        clear hβ1 hβ2 c0 c1 c2 hn hT1 hA1 hB1 hL1
        go_wp2_with fail
        refine (implFreeOf_any _ _ _ _ _ hL2 hl HP.out).mono ?_
        rintro e W3 ⟨v, rfl, hF, hB3⟩
        have hb3 := next hb2 hB3
        have hbx3 := (hB3.block w.heap.size (heap_ltH hbx2)).trans hbx2
        obtain ⟨fs, hfs⟩ : ∃ fs, freeL l x.avoid = fs := ⟨_, rfl⟩
        have hfl : fs.length ≤ 1048576 := by rw [← hfs]; exact Nat.le_trans (freeL_lenH l x.avoid) hl
        rw [hfs] at hF HQ
        clear hfs
        obtain ⟨F, cf, rfl, hFI, -⟩ := hF.form
        have HF := hide (fun v => contains_any F cf fs v W3 hFI hfl)
        obtain ⟨k0, k1, k2⟩ := box3_cells hbx3
        have HO := hide ((HB1.out.below hB2).below hB3)
        clear d0 d1 d2 hF hFI hB3 hB2 hb2
        go_wp2_with fail
        go_loopw [34] (fun iv wr => ∃ k : Nat, k ≤ x.of.length ∧ iv = .int .i64 k ∧ Hid (r = (x.of.drop k).all (hasI fs)) ∧ wr = W3) (fun iv _ => x.of.length - (intOf iv).toNat)
        case atStart => exact ⟨0, Nat.zero_le _, rfl, by simpa using HQ, rfl⟩
        case round =>
          obtain ⟨k, hk, rfl, HK, rfl⟩ := hrel
          by_cases hlt : k < x.of.length
          · obtain ⟨bb, off, rfl, hbl, o0⟩ := HO.out k x.of[k] (List.getElem?_eq_getElem hlt)
            have HD : Hid (x.of.drop k = x.of[k] :: x.of.drop (k + 1)) := hide (List.drop_eq_getElem_cons hlt)
            generalize x.of[k] = p at o0 HD
            have hz : (0 : Int) ≤ k := by omega
            have hz2 : (k : Int) < x.of.length := by omega
            go_wp2_with fail
            refine (HF.out p).mono ?_
            rintro e W4 ⟨rfl, h4⟩
            subst W4
            cases hβ : hasI fs p with
            | false =>
              have hr : r = false := by rw [HK.out, HD.out, List.all_cons, hβ]; rfl
              subst hr
              go_wp2_with fail
              go_ret
              exact ⟨rfl, hb3⟩
            | true =>
              have HK2 : Hid (r = (x.of.drop (k + 1)).all (hasI fs)) := hide (by rw [HK.out, HD.out, List.all_cons, hβ, Bool.true_and])
              go_wp2_with fail
              go_roundw
              case rel => exact ⟨k + 1, hlt, by go_num, HK2, trivial⟩
              case measure => simp [intOf]; omega
          · have hr : r = true := by rw [HK.out, List.drop_of_length_le (by omega)]; rfl
            subst hr
            go_wp2_with fail
            go_ret
            exact ⟨rfl, hb3⟩
      · have hne : ((x.of.length : Int) != (x.dishes.length : Int)) = true := by simpa using hn
        have hr : r = false := by rw [← HR.out]; unfold tblOk; rw [hβ1, hβ2, decide_eq_false hn]; rfl
        subst hr
        clear hβ1 hβ2 c0 c1 c2 hn
        go_wp2_with fail
        go_ret
        exact ⟨rfl, hb2⟩

set_option maxRecDepth 100000 in
set_option maxHeartbeats 4000000 in
theorem implHouseValid_any (A B C D : Option Addr) (a b c d : Nat) (h : Hse) (w : World) (hA : HseAt w A B C D h) (hl : HseLe 1048576 h) (hT : PiecesAt w) :
    Calls Tryd.prog 38 #[hseV A a B b C c D d h] w fun e w' => e = .returned (.bool (houseOk h)) ∧ Below w.heap.size w w' := by
  have HL := hide hl
  have HA := hide hA
  clear hl hA
  have hl1 := HL.out.stock
  have hba : Below w.heap.size w (w.alloc (.cells #[.slice A h.items.length a, .slice B h.prices.length b, .slice C h.stock.length c, .int .i64 h.cash, .slice D h.tables.length d] 33)) := by go_grown
  have hbx := heap_alloc_new w (.cells #[.slice A h.items.length a, .slice B h.prices.length b, .slice C h.stock.length c, .int .i64 h.cash, .slice D h.tables.length d] 33)
  obtain ⟨r, HR⟩ : ∃ r, Hid (houseOk h = r) := ⟨_, hide rfl⟩
  rw [HR.out]
  go_enter Tryd.func38, Tryd.ntmps38
  go_upto_region 1 with fail
  obtain ⟨W, hW⟩ : ∃ W, w.alloc (.cells #[.slice A h.items.length a, .slice B h.prices.length b, .slice C h.stock.length c, .int .i64 h.cash, .slice D h.tables.length d] 33) = W := ⟨_, rfl⟩
  rw [hW] at hba hbx ⊢
  clear hW
  obtain ⟨c0, c1, c2, c3, c4⟩ := five_cells hbx
  obtain ⟨β1, hβ1⟩ : ∃ β, pricesOk h.items h.prices = β := ⟨_, rfl⟩
  go_wp2_with fail
  refine (implPricesValid_any _ _ _ _ _ _ _ (HA.out.items.below hba) HL.out.items HL.out.parts (HA.out.prices.below hba) HL.out.prices).mono ?_
  rintro e W1 ⟨rfl, hB1⟩
  rw [hβ1]
  have hb1 := next hba hB1
  have hbx1 := (hB1.block w.heap.size (heap_ltH hbx)).trans hbx
  clear c0 c1 c2 c3 c4 hba hbx hB1
  obtain ⟨c0, c1, c2, c3, c4⟩ := five_cells hbx1
  cases β1 with
  | false =>
    have hr : r = false := by rw [← HR.out]; unfold houseOk; rw [hβ1]; rfl
    subst hr
    clear hβ1
    go_wp2_with fail
    go_ret
    exact ⟨rfl, hb1⟩
  | true =>
    obtain ⟨β2, hβ2⟩ : ∃ β, (decide ((h.stock.length : Int) = h.items.length) && rangeOk 50 h.stock) = β := ⟨_, rfl⟩
    have HS := HA.out.stock.below hb1
    go_wp2_with fail
    refine (allInRange_any _ _ _ _ _ _ HS hl1).mono ?_
    rintro e W2 ⟨rfl, hB2⟩
    rw [hβ2]
    have hb2 := next hb1 hB2
    have hbx2 := (hB2.block w.heap.size (heap_ltH hbx1)).trans hbx1
    clear c0 c1 c2 c3 c4 HS hb1 hbx1
    obtain ⟨c0, c1, c2, c3, c4⟩ := five_cells hbx2
    cases β2 with
    | false =>
      have hr : r = false := by rw [← HR.out]; unfold houseOk; rw [hβ1, hβ2]; rfl
      subst hr
      clear hβ1 hβ2
      go_wp2_with fail
      go_ret
      exact ⟨rfl, hb2⟩
    | true =>
      obtain ⟨β3, hβ3⟩ : ∃ β, inR h.cash 0 99999 = β := ⟨_, rfl⟩
      have HI := hide (fun W => inRange_is h.cash 0 99999 β3 (hide hβ3) W)
      have HBB := hide (And.intro hβ1 (And.intro hβ2 hβ3))
      clear hβ1 hβ2 hβ3
      go_wp2_with fail
      refine (HI.out W2).mono ?_
      rintro e W3 ⟨rfl, h3⟩
      have h3 : W3 = W2 := by first | exact h3 | exact h3.symm
      subst W3
      cases β3 with
      | false =>
        have hr : r = false := by rw [← HR.out]; unfold houseOk; rw [HBB.out.1, HBB.out.2.1, HBB.out.2.2]; rfl
        subst hr
        go_wp2_with fail
        go_ret
        exact ⟨rfl, hb2⟩
      | true =>
        by_cases hn : h.tables.length ≤ 4
        · have hn2 : ¬ (4 : Int) < h.tables.length := by omega
          have HQ : Hid (r = h.tables.all (tblOk h.items)) := hide (by rw [← HR.out]; unfold houseOk; rw [HBB.out.1, HBB.out.2.1, HBB.out.2.2, decide_eq_true hn]; rfl)
          have HB2 := hide hbx2
          have Hb2 := hide hb2
          go_wp2_with fail
          go_loopw [35] (fun iv wr => ∃ k : Nat, k ≤ h.tables.length ∧ iv = .int .i64 k ∧ Hid (r = (h.tables.drop k).all (tblOk h.items)) ∧ Hid (wr.heap[w.heap.size]? = some (.cells #[.slice A h.items.length a, .slice B h.prices.length b, .slice C h.stock.length c, .int .i64 h.cash, .slice D h.tables.length d] 33 (0, 0))) ∧ Hid (Below w.heap.size w wr)) (fun iv _ => h.tables.length - (intOf iv).toNat)
          case atStart => exact ⟨0, Nat.zero_le _, rfl, by simpa using HQ, HB2, Hb2⟩
          case round =>
            clear c0 c1 c2 c3 c4 hb2 hbx2 HB2 Hb2
            obtain ⟨k, hk, rfl, HK, HX, HB⟩ := hrel
            obtain ⟨c0, c1, c2, c3, c4⟩ := five_cells HX.out
            by_cases hlt : k < h.tables.length
            · obtain ⟨tb, off, A', a', B', b', e, hbl, t0, t1, t2, hda, hia⟩ := (HA.out.tables.below HB.out) k h.tables[k] (List.getElem?_eq_getElem hlt)
              have HD : Hid (h.tables.drop k = h.tables[k] :: h.tables.drop (k + 1)) := hide (List.drop_eq_getElem_cons hlt)
              have HX1 := hide (HL.out.rows _ (List.getElem_mem hlt))
              generalize h.tables[k] = x at t0 t1 t2 hda hia HD HX1
              subst e
              have hz : (0 : Int) ≤ k := by omega
              have hz2 : (k : Int) < h.tables.length := by omega
              have hbs : Below wr.heap.size wr (wr.alloc (.cells #[.int .i64 x.avoid, .slice A' x.dishes.length a', .slice B' x.of.length b'] 115)) := (Below.refl _ _).alloc (Nat.le_refl _) _
              have hby := heap_alloc_new wr (.cells #[.int .i64 x.avoid, .slice A' x.dishes.length a', .slice B' x.of.length b'] 115)
              go_upto_region 6 with fail
              obtain ⟨V, hV⟩ : ∃ V, wr.alloc (.cells #[.int .i64 x.avoid, .slice A' x.dishes.length a', .slice B' x.of.length b'] 115) = V := ⟨_, rfl⟩
              rw [hV] at hbs hby ⊢
              clear hV c0 c1 c2 c3 c4 t0 t1 t2
              have HX2 := hide ((hbs.block w.heap.size (heap_ltH HX.out)).trans HX.out)
              obtain ⟨c0, c1, c2, c3, c4⟩ := five_cells HX2.out
              obtain ⟨t0, t1, t2⟩ := box3_cells hby
              have hb3 := HB.out.trans (hbs.mono HB.out.size)
              have HTF := hide (tableFits_any A' B' A a' b' a x h.items V (hda.below hbs) (hia.below hbs) HX1.out (HA.out.items.below hb3) HL.out.items HL.out.parts (hT.below hb3))
              clear hda hia
              go_wp2_with fail
              refine HTF.out.mono ?_
              rintro e V1 ⟨rfl, hB4⟩
              have hb4 := next hb3 hB4
              have hx4 := (hB4.block w.heap.size (heap_ltH HX2.out)).trans HX2.out
              clear c0 c1 c2 c3 c4 t0 t1 t2
              cases hβ : tblOk h.items x with
              | false =>
                have hr : r = false := by rw [HK.out, HD.out, List.all_cons, hβ]; rfl
                subst hr
                go_wp2_with fail
                go_ret
                exact ⟨rfl, hb4⟩
              | true =>
                have HK2 : Hid (r = (h.tables.drop (k + 1)).all (tblOk h.items)) := hide (by rw [HK.out, HD.out, List.all_cons, hβ, Bool.true_and])
                go_wp2_with fail
                go_roundw
                case rel => exact ⟨k + 1, hlt, by go_num, HK2, hide hx4, hide hb4⟩
                case measure => simp [intOf]; omega
            · have hr : r = true := by rw [HK.out, List.drop_of_length_le (by omega)]; rfl
              subst hr
              go_wp2_with fail
              go_ret
              exact ⟨rfl, HB.out⟩
        · have hn2 : (4 : Int) < h.tables.length := by omega
          have hr : r = false := by rw [← HR.out]; unfold houseOk; rw [HBB.out.1, HBB.out.2.1, HBB.out.2.2, decide_eq_false hn]; rfl
          subst hr
          go_wp2_with fail
          go_ret
          exact ⟨rfl, hb2⟩
end Go.Proofs.YtmepnilnlpoodaaDoor
