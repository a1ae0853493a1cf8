/- Bill1: bills of tables and what a house is worth; contracts of the program.
   Conditions: the table of the states' pieces lies as laid. -/
import Derived.Test.YtefpifpalnafmaaDoorHouse2
import Derived.Test.YtefpifpalnafmaaDoorCost
import Derived.StillTail
import Derived.OrdersIn
namespace Go.Proofs.YtefpifpalnafmaaDoor
open Go.RowKit Go.ChangeShapes Go.WideShapes Go.ChangeAt Go.Deep

def billGo (ps : List Int) : List Order → List Int → Int
  | d :: ds, o :: os => (if d.state = 3 then ps.getD o.toNat 0 else 0) + billGo ps ds os
  | _, _ => 0
def billL (ps : List Int) (x : Tbl) : Int := billGo ps x.dishes x.of
def sumBill (ps : List Int) : List Tbl → Int
  | [] => 0
  | x :: r => billL ps x + sumBill ps r
def tableBill (h : Hse) (n : Int) : Int := if (houseOk h && inR n 0 ((h.tables.length : Int) - 1)) = true then billL h.prices (h.tables.getD n.toNat instTbl.default) else -1
def houseWorth (h : Hse) : Int := if houseOk h = true then h.cash + sumBill h.prices h.tables else -1

/-- What is known of the tables of a valid house. -/
structure BillFit (ps : List Int) (x : Tbl) : Prop where
  len : x.of.length = x.dishes.length
  few : x.dishes.length ≤ 6
  rng : ∀ o ∈ x.of, 0 ≤ o ∧ o < (ps.length : Int)
  val : rangeOk 20 ps = true
theorem freeFrom_rng (l : List Item) (avoid : Int) : ∀ (r : List Item) (k : Nat), ∀ o ∈ freeFrom l avoid k r, (k : Int) ≤ o ∧ o < (k : Int) + r.length
  | [], _, o, ho => by simp [freeFrom] at ho
  | x :: r, k, o, ho => by
    rw [freeFrom] at ho
    rcases List.mem_append.1 ho with h | h
    · split at h
      · obtain rfl : o = k := by simpa using h
        rw [List.length_cons]
        omega
      · cases h
    · have := freeFrom_rng l avoid r (k + 1) o h
      rw [List.length_cons]
      omega
theorem freeL_rng {l : List Item} {avoid o : Int} (h : o ∈ freeL l avoid) : 0 ≤ o ∧ o < (l.length : Int) := by
  unfold freeL at h
  split at h
  · have := freeFrom_rng l avoid l 0 o h
    omega
  · cases h
theorem hasI_mem {xs : List Int} {o : Int} (h : hasI xs o = true) : o ∈ xs := by
  unfold hasI at h
  obtain ⟨y, hy, e⟩ := List.any_eq_true.1 h
  obtain rfl : y = o := by simpa using e
  exact hy
theorem houseOk_parts {h : Hse} (hk : houseOk h = true) : pricesOk h.items h.prices = true ∧ h.stock.length = h.items.length ∧ rangeOk 50 h.stock = true ∧ (0 ≤ h.cash ∧ h.cash ≤ 99999) ∧ h.tables.length ≤ 4 ∧ ∀ x ∈ h.tables, tblOk h.items x = true := by
  unfold houseOk at hk
  simp only [Bool.and_eq_true, decide_eq_true_eq, inR_iff, List.all_eq_true] at hk
  obtain ⟨h1, ⟨h2, h3⟩, h4, h5, h6⟩ := hk
  exact ⟨h1, by omega, h3, h4, h5, h6⟩
theorem tblOk_parts {l : List Item} {x : Tbl} (hk : tblOk l x = true) : (0 ≤ x.avoid ∧ x.avoid ≤ 31) ∧ ticketOkL x.dishes = true ∧ x.of.length = x.dishes.length ∧ ∀ o ∈ x.of, o ∈ freeL l x.avoid := by
  unfold tblOk at hk
  simp only [Bool.and_eq_true, decide_eq_true_eq, inR_iff, List.all_eq_true] at hk
  obtain ⟨h1, h2, h3, h4⟩ := hk
  exact ⟨h1, h2, by omega, fun o ho => hasI_mem (h4 o ho)⟩
theorem house_fit {h : Hse} (hk : houseOk h = true) {x : Tbl} (hx : x ∈ h.tables) : BillFit h.prices x := by
  obtain ⟨h1, -, -, -, -, h6⟩ := houseOk_parts hk
  obtain ⟨-, t2, t3, t4⟩ := tblOk_parts (h6 x hx)
  obtain ⟨hI, hpl, hpr⟩ := pricesOk_at h1
  exact ⟨t3, ticketOk_len t2, fun o ho => by have := freeL_rng (t4 o ho); omega, hpr⟩
theorem billGo_rng {ps : List Int} (hp : rangeOk 20 ps = true) : ∀ (ds : List Order) (os : List Int), 0 ≤ billGo ps ds os ∧ billGo ps ds os ≤ 20 * ds.length
  | [], _ => by simp [billGo]
  | d :: ds, [] => by simp [billGo]; omega
  | d :: ds, o :: os => by
    have a := billGo_rng hp ds os
    have b : 0 ≤ ps.getD o.toNat 0 ∧ ps.getD o.toNat 0 ≤ 20 := by
      rw [List.getD_eq_getElem?_getD]
      cases e : ps[o.toNat]? with
      | none => simp
      | some p => exact rangeOk_at hp e
    rw [billGo, List.length_cons]
    split <;> omega
theorem billL_rng {ps : List Int} {x : Tbl} (hf : BillFit ps x) : 0 ≤ billL ps x ∧ billL ps x ≤ 120 := by
  have := billGo_rng hf.val x.dishes x.of
  have := hf.few
  unfold billL
  omega

set_option maxRecDepth 100000 in
set_option maxHeartbeats 4000000 in
theorem billOf_any (A B P : Option Addr) (a b c : Nat) (x : Tbl) (ps : List Int) (w : World) (hA : OrdersAt w A x.dishes) (hB : IntsAt w B x.of) (hP : IntsAt w P ps) (hf : BillFit ps x) :
    Calls Tryd.prog 41 #[tblV A a B b x, .slice P ps.length c] w fun e w' => e = .returned (.int .i64 (billL ps x)) ∧ Below w.heap.size w w' := by
  have hba : Below w.heap.size w (w.alloc (.cells #[.int .i64 x.avoid, .slice A x.dishes.length a, .slice B x.of.length b] 50)) := by go_grown
  have hbx := heap_alloc_new w (.cells #[.int .i64 x.avoid, .slice A x.dishes.length a, .slice B x.of.length b] 50)
  obtain ⟨r, HR⟩ : ∃ r, Hid (billL ps x = r) := ⟨_, hide rfl⟩
  rw [HR.out]
  have HF := hide hf
  have hn6 := hf.few
  clear hf
  go_enter Tryd.func41, Tryd.ntmps41
  go_upto_region 2 with fail
  obtain ⟨W, hW⟩ : ∃ W, w.alloc (.cells #[.int .i64 x.avoid, .slice A x.dishes.length a, .slice B x.of.length b] 50) = W := ⟨_, rfl⟩
  rw [hW] at hba hbx ⊢
  clear hW
  obtain ⟨c0, c1, c2⟩ := box3_cells hbx
  have HX0 := hide hbx
  have HB0 := hide hba
  have HD0 : Hid (r = 0 + billGo ps (x.dishes.drop 0) (x.of.drop 0)) := hide (by rw [← HR.out, Int.zero_add]; rfl)
  clear hbx hba
  go_wp2_with fail
  go_loopw [5, 11] (fun sv iv wr => ∃ (k : Nat) (s : Int), k ≤ x.dishes.length ∧ 0 ≤ s ∧ s ≤ 20 * k ∧ sv = .int .i64 s ∧ iv = .int .i64 k ∧ Hid (r = s + billGo ps (x.dishes.drop k) (x.of.drop k)) ∧ Hid (wr.heap[w.heap.size]? = some (.cells #[.int .i64 x.avoid, .slice A x.dishes.length a, .slice B x.of.length b] 50 (0, 0))) ∧ Hid (Below w.heap.size w wr)) (fun _ iv _ => x.dishes.length - (intOf iv).toNat)
  case atStart => exact ⟨0, 0, Nat.zero_le _, by omega, by omega, rfl, rfl, HD0, HX0, HB0⟩
  case round =>
    clear c0 c1 c2 HX0 HB0 HD0
    obtain ⟨k, s, hk, hs0, hs1, rfl, rfl, HD, HX, HB⟩ := hrel
    obtain ⟨c0, c1, c2⟩ := box3_cells HX.out
    by_cases hlt : k < x.dishes.length
    · have hlt2 : k < x.of.length := by rw [HF.out.len]; exact hlt
      obtain ⟨q, hq⟩ : ∃ q, x.dishes[k]? = some q := ⟨_, List.getElem?_eq_getElem hlt⟩
      obtain ⟨o, ho⟩ : ∃ o, x.of[k]? = some o := ⟨_, List.getElem?_eq_getElem hlt2⟩
      obtain ⟨o0, o1⟩ := HF.out.rng o (List.mem_of_getElem? ho)
      obtain ⟨on, rfl⟩ : ∃ on : Nat, o = on := ⟨o.toNat, by omega⟩
      obtain ⟨p, hp⟩ : ∃ p, ps[on]? = some p := ⟨_, List.getElem?_eq_getElem (by omega)⟩
      have hpr := rangeOk_at HF.out.val hp
      have HD2 : Hid (r = s + (if q.state = 3 then p else 0) + billGo ps (x.dishes.drop (k + 1)) (x.of.drop (k + 1))) := hide (by
        rw [HD.out, List.drop_eq_getElem_cons hlt, List.drop_eq_getElem_cons hlt2, billGo]
        rw [List.getElem?_eq_getElem hlt] at hq
        rw [List.getElem?_eq_getElem hlt2] at ho
        injection hq with hq
        injection ho with ho
        rw [hq, ho, Int.toNat_natCast, List.getD_eq_getElem?_getD, hp, Option.getD_some]
        omega)
      obtain ⟨db, dof, rfl, hdl, d0, d1⟩ := (hA.below HB.out) k q hq
      obtain ⟨ob, oof, rfl, hol, e0⟩ := (hB.below HB.out) k _ ho
      obtain ⟨pb, pof, rfl, hpl, f0⟩ := (hP.below HB.out) on p hp
      have hz : (0 : Int) ≤ k := by omega
      have hz2 : (k : Int) < x.dishes.length := by omega
      have hz3 : (k : Int) < x.of.length := by omega
      have hz4 : (0 : Int) ≤ on := by omega
      have hz5 : (on : Int) < ps.length := by omega
      have hbs : Below wr.heap.size wr (wr.alloc (.cells #[.int .i64 q.course, .int .i64 q.state] 63)) := (Below.refl _ _).alloc (Nat.le_refl _) _
      have hby := heap_alloc_new wr (.cells #[.int .i64 q.course, .int .i64 q.state] 63)
      clear hq ho hp
      go_upto_region 5 with fail
      obtain ⟨V, hV⟩ : ∃ V, wr.alloc (.cells #[.int .i64 q.course, .int .i64 q.state] 63) = V := ⟨_, rfl⟩
      rw [hV] at hbs hby ⊢
      have HX2 := hide ((hbs.block w.heap.size (heap_ltH HX.out)).trans HX.out)
      have HB2 := hide (HB.out.trans (hbs.mono HB.out.size))
      have e0 := (hbs.cell hol).trans e0
      have f0 := (hbs.cell hpl).trans f0
      clear hV c0 c1 c2 d0 d1 hbs
      obtain ⟨c0, c1, c2⟩ := box3_cells HX2.out
      have g1 : V.cell? ⟨wr.heap.size, 1, none⟩ = some (.int .i64 q.state) := by rw [cell_of_row _ _ 1 _ _ _ hby]; rfl
      have hw1 : IntKind.i64.wrap (s + p) = s + p := IntWalk.i64_in _ (by omega)
      clear hby
      obtain ⟨st, hst⟩ : ∃ st, q.state = st := ⟨_, rfl⟩
      rw [hst] at g1 HD2
      by_cases h3 : st = 3
      · have h3b : (st == 3) = true := by simp [h3]
        rw [if_pos h3] at HD2
        clear h3 hst
        go_wp2_with fail
        go_roundw
        case rel => exact ⟨k + 1, s + p, hlt, by omega, by omega, by first | rfl | go_num, by go_num, HD2, HX2, HB2⟩
        case measure => simp [intOf]; omega
      · have h3b : (st == 3) = false := by simp [h3]
        rw [if_neg h3, Int.add_zero] at HD2
        clear h3 hst
        go_wp2_with fail
        go_roundw
        case rel => exact ⟨k + 1, s, hlt, by omega, by omega, by first | rfl | go_num, by go_num, HD2, HX2, HB2⟩
        case measure => simp [intOf]; omega
    · have hr : r = s := by
        rw [HD.out, List.drop_of_length_le (by omega)]
        simp [billGo]
      subst hr
      go_wp2_with fail
      go_ret
      exact ⟨rfl, HB.out⟩

theorem tableBill_no {h : Hse} {n : Int} (hh : (houseOk h && inR n 0 ((h.tables.length : Int) - 1)) = false) : tableBill h n = -1 := by unfold tableBill; rw [if_neg (by rw [hh]; decide)]

set_option maxRecDepth 100000 in
set_option maxHeartbeats 4000000 in
theorem implTableBill_any (A B C D : Option Addr) (a b c d : Nat) (h : Hse) (n : Int) (w : World) (hA : HseAt w A B C D h) (hl : HseLe 1048576 h) (hT : PiecesAt w) :
    Calls Tryd.prog 13 #[hseV A a B b C c D d h, .int .i64 n] w fun e w' => e = .returned (.int .i64 (tableBill h n)) ∧ Below w.heap.size w w' := by
  have HL := hide hl
  have HA := hide hA
  clear hl hA
  have hba : Below w.heap.size w (w.alloc (.cells #[.slice A h.items.length a, .slice B h.prices.length b, .slice C h.stock.length c, .int .i64 h.cash, .slice D h.tables.length d] 32)) := by go_grown
  have hbx := heap_alloc_new w (.cells #[.slice A h.items.length a, .slice B h.prices.length b, .slice C h.stock.length c, .int .i64 h.cash, .slice D h.tables.length d] 32)
  obtain ⟨r, HR⟩ : ∃ r, Hid (tableBill h n = r) := ⟨_, hide rfl⟩
  rw [HR.out]
  go_enter Tryd.func13, Tryd.ntmps13
  go_upto_region 1 with fail
  obtain ⟨W, hW⟩ : ∃ W, w.alloc (.cells #[.slice A h.items.length a, .slice B h.prices.length b, .slice C h.stock.length c, .int .i64 h.cash, .slice D h.tables.length d] 32) = W := ⟨_, rfl⟩
  rw [hW] at hba hbx ⊢
  clear hW
  obtain ⟨c0, c1, c2, c3, c4⟩ := five_cells hbx
  go_wp2_with fail
  refine (implHouseValid_any _ _ _ _ _ _ _ _ _ _ (HA.out.below hba) HL.out (hT.below hba)).mono ?_
  rintro e W1 ⟨rfl, hB1⟩
  have hb1 := next hba hB1
  have hbx1 := (hB1.block w.heap.size (heap_ltH hbx)).trans hbx
  clear c0 c1 c2 c3 c4 hba hbx hB1
  obtain ⟨c0, c1, c2, c3, c4⟩ := five_cells hbx1
  cases hok : houseOk h with
  | false =>
    have hr : r = -1 := by rw [← HR.out]; exact tableBill_no (by rw [hok]; rfl)
    subst hr
    clear hok
    go_wp2_with fail
    go_ret
    exact ⟨rfl, hb1⟩
  | true =>
    have HOK := hide hok
    have ht4 := (houseOk_parts hok).2.2.2.2.1
    obtain ⟨β, hβ⟩ : ∃ β, inR n 0 ((h.tables.length : Int) - 1) = β := ⟨_, rfl⟩
    have HI := hide (fun W => inRange_is n 0 ((h.tables.length : Int) - 1) β (hide hβ) W)
    have HBT := hide hβ
    have hw1 : IntKind.i64.wrap ((h.tables.length : Int) - 1) = (h.tables.length : Int) - 1 := IntWalk.i64_in _ (by omega)
    clear hok hβ
    go_wp2_with fail
    refine (HI.out W1).mono ?_
    rintro e W2 ⟨rfl, h2⟩
    have h2 : W2 = W1 := by first | exact h2 | exact h2.symm
    subst W2
    cases β with
    | false =>
      have hr : r = -1 := by rw [← HR.out]; exact tableBill_no (by rw [HBT.out]; simp)
      subst hr
      go_wp2_with fail
      go_ret
      exact ⟨rfl, hb1⟩
    | true =>
      have hir := inR_iff.1 HBT.out
      obtain ⟨q, rfl⟩ : ∃ q : Nat, n = q := ⟨n.toNat, by omega⟩
      obtain ⟨x, hx⟩ : ∃ x, h.tables[q]? = some x := ⟨_, List.getElem?_eq_getElem (by omega)⟩
      have HRX : Hid (r = billL h.prices x) := hide (by rw [← HR.out]; unfold tableBill; rw [HOK.out, HBT.out, if_pos (by rfl), Int.toNat_natCast, List.getD_eq_getElem?_getD, hx]; rfl)
      have hfit := house_fit HOK.out (List.mem_of_getElem? hx)
      obtain ⟨tb, off, A', a', B', b', e, hbl, t0, t1, t2, hda, hia⟩ := (HA.out.tables.below hb1) q x hx
      have HBO := hide (fun (V : World) (hV : Below W1.heap.size W1 V) => billOf_any A' B' B a' b' b x h.prices V (hda.below hV) (hia.below hV) ((HA.out.prices.below hb1).below hV) hfit)
      subst e
      have hq0 : (0 : Int) ≤ q := by omega
      have hq1 : (q : Int) < h.tables.length := by omega
      clear hx hfit hir hda hia
      go_wp2_with fail
      refine still_tail_drew 7 (by kernel_rfl) (by kernel_rfl) ?_
      simp only [List.take_succ_cons, List.take_zero, List.drop_succ_cons, List.drop_zero]
      repeat still_step
      refine wpStill_nil ?_
      go_wp2_with fail
      refine (HBO.out _ (Below.refl _ _).drew).mono ?_
      rintro e W3 ⟨rfl, hB3⟩
      rw [← HRX.out]
      have hb3 := hb1.trans (((Below.refl _ _).drew.trans (hB3.mono (by simp))).mono hb1.size)
      go_wp2_with fail
      go_ret
      exact ⟨rfl, hb3⟩

theorem sumBill_rng {ps : List Int} : ∀ (l : List Tbl), (∀ x ∈ l, BillFit ps x) → 0 ≤ sumBill ps l ∧ sumBill ps l ≤ 120 * l.length
  | [], _ => by simp [sumBill]
  | x :: r, hf => by
    have a := sumBill_rng r (fun y hy => hf y (by simp [hy]))
    have b := billL_rng (hf x (by simp))
    rw [sumBill, List.length_cons]
    omega

set_option maxRecDepth 100000 in
set_option maxHeartbeats 4000000 in
theorem implHouseWorth_any (A B C D : Option Addr) (a b c d : Nat) (h : Hse) (w : World) (hA : HseAt w A B C D h) (hl : HseLe 1048576 h) (hT : PiecesAt w) :
    Calls Tryd.prog 15 #[hseV A a B b C c D d h] w fun e w' => e = .returned (.int .i64 (houseWorth h)) ∧ Below w.heap.size w w' := by
  have HL := hide hl
  have HA := hide hA
  clear hl hA
  have hba : Below w.heap.size w (w.alloc (.cells #[.slice A h.items.length a, .slice B h.prices.length b, .slice C h.stock.length c, .int .i64 h.cash, .slice D h.tables.length d] 32)) := by go_grown
  have hbx := heap_alloc_new w (.cells #[.slice A h.items.length a, .slice B h.prices.length b, .slice C h.stock.length c, .int .i64 h.cash, .slice D h.tables.length d] 32)
  obtain ⟨r, HR⟩ : ∃ r, Hid (houseWorth h = r) := ⟨_, hide rfl⟩
  rw [HR.out]
  go_enter Tryd.func15, Tryd.ntmps15
  go_upto_region 1 with fail
  obtain ⟨W, hW⟩ : ∃ W, w.alloc (.cells #[.slice A h.items.length a, .slice B h.prices.length b, .slice C h.stock.length c, .int .i64 h.cash, .slice D h.tables.length d] 32) = W := ⟨_, rfl⟩
  rw [hW] at hba hbx ⊢
  clear hW
  obtain ⟨c0, c1, c2, c3, c4⟩ := five_cells hbx
  go_wp2_with fail
  refine (implHouseValid_any _ _ _ _ _ _ _ _ _ _ (HA.out.below hba) HL.out (hT.below hba)).mono ?_
  rintro e W1 ⟨rfl, hB1⟩
  have hb1 := next hba hB1
  have hbx1 := (hB1.block w.heap.size (heap_ltH hbx)).trans hbx
  clear c0 c1 c2 c3 c4 hba hbx hB1
  obtain ⟨c0, c1, c2, c3, c4⟩ := five_cells hbx1
  cases hok : houseOk h with
  | false =>
    have hr : r = -1 := by rw [← HR.out]; unfold houseWorth; rw [hok]; rfl
    subst hr
    clear hok
    go_wp2_with fail
    go_ret
    exact ⟨rfl, hb1⟩
  | true =>
    have HOK := hide hok
    obtain ⟨-, -, -, ⟨hc0, hc1⟩, ht4, -⟩ := houseOk_parts hok
    have HD0 : Hid (r = h.cash + sumBill h.prices (h.tables.drop 0)) := hide (by rw [← HR.out]; unfold houseWorth; rw [hok, if_pos rfl]; rfl)
    have HX0 := hide hbx1
    have HB0 := hide hb1
    clear hok hbx1 hb1
    go_wp2_with fail
    go_loopw [3, 14] (fun sv iv wr => ∃ (k : Nat) (s : Int), k ≤ h.tables.length ∧ 0 ≤ s ∧ s ≤ 99999 + 120 * k ∧ sv = .int .i64 s ∧ iv = .int .i64 k ∧ Hid (r = s + sumBill h.prices (h.tables.drop k)) ∧ Hid (wr.heap[w.heap.size]? = some (.cells #[.slice A h.items.length a, .slice B h.prices.length b, .slice C h.stock.length c, .int .i64 h.cash, .slice D h.tables.length d] 32 (0, 0))) ∧ Hid (Below w.heap.size w wr)) (fun _ iv _ => h.tables.length - (intOf iv).toNat)
    case atStart => exact ⟨0, h.cash, Nat.zero_le _, hc0, by omega, rfl, rfl, HD0, HX0, HB0⟩
    case round =>
      clear c0 c1 c2 c3 c4 HX0 HB0 HD0
      obtain ⟨k, s, hk, hs0, hs1, rfl, rfl, HD, HX, HB⟩ := hrel
      obtain ⟨c0, c1, c2, c3, c4⟩ := five_cells HX.out
      by_cases hlt : k < h.tables.length
      · obtain ⟨x, hx⟩ : ∃ x, h.tables[k]? = some x := ⟨_, List.getElem?_eq_getElem hlt⟩
        have hfit := house_fit HOK.out (List.mem_of_getElem? hx)
        have hbr := billL_rng hfit
        have HD2 : Hid (r = s + billL h.prices x + sumBill h.prices (h.tables.drop (k + 1))) := hide (by
          rw [HD.out, List.drop_eq_getElem_cons hlt, sumBill]
          rw [List.getElem?_eq_getElem hlt] at hx
          injection hx with hx
          rw [hx]
          omega)
        obtain ⟨tb, off, A', a', B', b', e, hbl, t0, t1, t2, hda, hia⟩ := (HA.out.tables.below HB.out) k x hx
        have hbs : Below wr.heap.size wr (wr.alloc (.cells #[.int .i64 x.avoid, .slice A' x.dishes.length a', .slice B' x.of.length b'] 50)) := (Below.refl _ _).alloc (Nat.le_refl _) _
        have hby := heap_alloc_new wr (.cells #[.int .i64 x.avoid, .slice A' x.dishes.length a', .slice B' x.of.length b'] 50)
        have HBO := hide (fun (V : World) (hV : Below wr.heap.size wr V) => billOf_any A' B' B a' b' b x h.prices V (hda.below hV) (hia.below hV) ((HA.out.prices.below HB.out).below hV) hfit)
        subst e
        obtain ⟨v, hv⟩ : ∃ v, billL h.prices x = v := ⟨_, rfl⟩
        rw [hv] at hbr HD2 HBO
        have hz : (0 : Int) ≤ k := by omega
        have hz2 : (k : Int) < h.tables.length := by omega
        have hw1 : IntKind.i64.wrap (s + v) = s + v := IntWalk.i64_in _ (by omega)
        clear hx hfit hda hia hv
        go_upto_region 7 with fail
        obtain ⟨V, hV⟩ : ∃ V, wr.alloc (.cells #[.int .i64 x.avoid, .slice A' x.dishes.length a', .slice B' x.of.length b'] 50) = V := ⟨_, rfl⟩
        rw [hV] at hbs hby ⊢
        clear hV c0 c1 c2 c3 c4 t0 t1 t2
        have HX2 := hide ((hbs.block w.heap.size (heap_ltH HX.out)).trans HX.out)
        have hb2 := HB.out.trans (hbs.mono HB.out.size)
        obtain ⟨c0, c1, c2, c3, c4⟩ := five_cells HX2.out
        obtain ⟨t0, t1, t2⟩ := box3_cells hby
        go_wp2_with fail
        refine (HBO.out V hbs).mono ?_
        rintro e V2 ⟨rfl, hB3⟩
        have hb3 := next hb2 hB3
        have hx3 := (hB3.block w.heap.size (heap_ltH HX2.out)).trans HX2.out
        clear c0 c1 c2 c3 c4 t0 t1 t2 hby hbs hB3 hb2
        go_wp2_with fail
        go_roundw
        case rel => exact ⟨k + 1, s + v, hlt, by omega, by omega, by first | rfl | go_num, by go_num, HD2, hide hx3, hide hb3⟩
        case measure => simp [intOf]; omega
      · have hr : r = s := by
          rw [HD.out, List.drop_of_length_le (by omega)]
          simp [sumBill]
        subst hr
        go_wp2_with fail
        go_ret
        exact ⟨rfl, HB.out⟩
end Go.Proofs.YtefpifpalnafmaaDoor
