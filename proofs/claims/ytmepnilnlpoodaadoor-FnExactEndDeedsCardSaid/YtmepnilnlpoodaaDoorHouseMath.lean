/- What a deed does with a house, as the program does it, and what the reference model asks for besides: a house that is not valid then.
   Conditions: none. -/
import Derived.Test.YtmepnilnlpoodaaDoorBill1
import Derived.Test.YtmepnilnlpoodaaDoorTickMath
import Derived.Test.YtmepnilnlpoodaaDoorMakeMath
import Derived.Test.YtmepnilnlpoodaaDoorDeeds
import Derived.Test.YtmepnilnlpoodaaDoorHseOwn
namespace Go.Proofs.YtmepnilnlpoodaaDoor
open Go.RowKit Go.ChangeShapes Go.WideShapes Go.ChangeAt Go.Deep

def hasN (n : Int) (m : Nat) : Bool := inR n 0 ((m : Int) - 1)
/-- What is not named for a kind is 0. -/
def namedOk (d : HDeed) : Bool :=
  inR d.kind 0 5 && ((decide (d.kind = 3) || decide (d.three = 0)) && ((decide (d.kind = 0) || (decide (d.kind = 1) || (decide (d.kind = 3) || decide (d.two = 0)))) && (!decide (d.kind = 4) || decide (d.one = 0))))
def itemOf (h : Hse) (i : Int) : Item := h.items.getD i.toNat noItem
def tblOf (h : Hse) (t : Int) : Tbl := h.tables.getD t.toNat noTbl
def buyH (h : Hse) (i u : Int) : Hse := { h with stock := h.stock.set i.toNat (h.stock.getD i.toNat 0 + u), cash := h.cash - u * h.prices.getD i.toNat 0 }
def runsH (h : Hse) (i u : Int) : List Int := (List.replicate h.items.length 0).set i.toNat u
def openH (h : Hse) (a : Int) : Hse := { h with tables := h.tables ++ [⟨a, [], []⟩] }
def moreT (x : Tbl) (i c : Int) : Tbl := ⟨x.avoid, x.dishes ++ [⟨c, 0⟩], x.of ++ [i]⟩
def orderH (h : Hse) (t i c : Int) : Hse := { h with stock := h.stock.set i.toNat (h.stock.getD i.toNat 0 - 1), tables := h.tables.set t.toNat (moreT (tblOf h t) i c) }
def ticketsL (h : Hse) : List (List Order) := h.tables.map Tbl.dishes
def putTks : List Tbl → List (List Order) → List Tbl
  | x :: r, t :: s => ⟨x.avoid, t, x.of⟩ :: putTks r s
  | l, _ => l
def workH (h : Hse) : Hse := { h with tables := putTks h.tables (workStepL (ticketsL h)).1 }
def closeH (h : Hse) (t : Int) : Hse := { h with cash := h.cash + billL h.prices (tblOf h t), tables := h.tables.eraseIdx t.toNat }

def buyL (h : Hse) (i u : Int) : Option Hse := if (hasN i h.items.length && (!decide (0 < (itemOf h i).yield) && inR u 1 50)) = true then some (buyH h i u) else none
def makeL (h : Hse) (i u : Int) : Option Hse := if (hasN i h.items.length && (decide (0 < (itemOf h i).yield) && inR u 1 50)) = true then (makeRunL h.items h.stock (runsH h i u)).map (fun s => { h with stock := s }) else none
def orderL (h : Hse) (t i c : Int) : Option Hse := if (hasN t h.tables.length && hasN i h.items.length) = true then some (orderH h t i c) else none
def workL (h : Hse) : Option Hse := if (workStepL (ticketsL h)).2 = true then some (workH h) else none
def closeL (h : Hse) (t : Int) : Option Hse := if (hasN t h.tables.length && doneL (tblOf h t).dishes) = true then some (closeH h t) else none
def siteDoL (h : Hse) (d : HDeed) : Option Hse :=
  if d.kind = 0 then buyL h d.one d.two else if d.kind = 1 then makeL h d.one d.two else if d.kind = 2 then some (openH h d.one) else if d.kind = 3 then orderL h d.one d.two d.three else if d.kind = 4 then workL h else closeL h d.one
/-- The house after a deed, if it can be done. -/
def houseDoL (h : Hse) (d : HDeed) : Option Hse := if namedOk d = true then (siteDoL h d).filter houseOk else none
def noHse : Hse := ⟨[], [], [], 0, []⟩
def doneH (h : Hse) (d : HDeed) : Hse × Bool := match houseDoL h d with
  | some x => (x, true)
  | none => (h, false)
def houseDoR (h : Hse) (d : HDeed) : Hse × Bool := if houseOk h = true then doneH h d else (noHse, false)

theorem hasN_iff {n : Int} {m : Nat} : hasN n m = true ↔ 0 ≤ n ∧ n < m := by unfold hasN; rw [inR_iff]; omega
theorem hasN_nat {n : Int} {m : Nat} (h : hasN n m = true) : ∃ k : Nat, n = k ∧ k < m := by
  have := hasN_iff.1 h
  exact ⟨n.toNat, by omega, by omega⟩
theorem done_some {h x : Hse} {d : HDeed} (e : houseDoL h d = some x) : doneH h d = (x, true) := by unfold doneH; rw [e]
theorem done_none {h : Hse} {d : HDeed} (e : houseDoL h d = none) : doneH h d = (h, false) := by unfold doneH; rw [e]
theorem do_unnamed {h : Hse} {d : HDeed} (e : namedOk d = false) : houseDoL h d = none := by unfold houseDoL; rw [e]; rfl
theorem do_site {h : Hse} {d : HDeed} (e : namedOk d = true) : houseDoL h d = (siteDoL h d).filter houseOk := by unfold houseDoL; rw [if_pos e]
theorem do_off {h : Hse} {d : HDeed} (e : siteDoL h d = none) : houseDoL h d = none := by
  unfold houseDoL
  rw [e]
  split <;> rfl
theorem do_bad {h x : Hse} {d : HDeed} (e : siteDoL h d = some x) (hx : houseOk x = false) : houseDoL h d = none := by
  unfold houseDoL
  rw [e]
  split
  · rw [Option.filter_some_neg (by simp [hx])]
  · rfl
theorem do_good {h x : Hse} {d : HDeed} (n : namedOk d = true) (e : siteDoL h d = some x) (hx : houseOk x = true) : houseDoL h d = some x := by
  rw [do_site n, e, Option.filter_some_pos hx]
theorem do_ok {h x : Hse} {d : HDeed} (e : houseDoL h d = some x) : namedOk d = true ∧ siteDoL h d = some x ∧ houseOk x = true := by
  unfold houseDoL at e
  split at e
  · rename_i hn
    obtain ⟨h1, h2⟩ := Option.filter_eq_some_iff.1 e
    exact ⟨hn, h1, h2⟩
  · cases e
theorem done_ok {h : Hse} (hk : houseOk h = true) (d : HDeed) : houseOk (doneH h d).1 = true := by
  cases e : houseDoL h d with
  | none => rw [done_none e]; exact hk
  | some x => rw [done_some e]; exact (do_ok e).2.2

/-- What a valid house holds is short. -/
theorem house_le {h : Hse} (hk : houseOk h = true) (m : Nat) (hm : 6 ≤ m) : HseLe m h := by
  obtain ⟨h1, h2, -, -, h5, h6⟩ := houseOk_parts hk
  obtain ⟨hI, hpl, -⟩ := pricesOk_at h1
  have hl := itemsOk_len hI
  refine ⟨by omega, fun x hx => ?_, by omega, by omega, by omega, fun x hx => ?_⟩
  · obtain ⟨i, hi⟩ := List.getElem?_of_mem hx
    have := (itemsOk_many hI i x hi).1
    omega
  · obtain ⟨-, t2, t3, -⟩ := tblOk_parts (h6 x hx)
    have := ticketOk_len t2
    exact ⟨by omega, by omega⟩
theorem house_kitchen {h : Hse} (hk : houseOk h = true) : kitchenOkL (ticketsL h) = true := by
  obtain ⟨-, -, -, -, h5, h6⟩ := houseOk_parts hk
  unfold kitchenOkL ticketsL
  rw [Bool.and_eq_true]
  refine ⟨by rw [List.length_map]; exact decide_eq_true h5, List.all_eq_true.2 fun t ht => ?_⟩
  obtain ⟨x, hx, rfl⟩ := List.mem_map.1 ht
  exact (tblOk_parts (h6 x hx)).2.1
theorem getD_tbl {l : List Tbl} {i : Nat} {x : Tbl} (h : l[i]? = some x) : l.getD i noTbl = x := by rw [List.getD_eq_getElem?_getD, h]; rfl
theorem getD_item {l : List Item} {i : Nat} {x : Item} (h : l[i]? = some x) : l.getD i noItem = x := by rw [List.getD_eq_getElem?_getD, h]; rfl
theorem getD_int {l : List Int} {i : Nat} {x : Int} (h : l[i]? = some x) : l.getD i 0 = x := by rw [List.getD_eq_getElem?_getD, h]; rfl

/-- What a house's rows hold after a deed is not much longer. -/
theorem le_buy {h : Hse} {i u : Int} {m : Nat} (hl : HseLe m h) : HseLe m (buyH h i u) := ⟨hl.items, hl.parts, hl.prices, by show (h.stock.set _ _).length ≤ m; rw [List.length_set]; exact hl.stock, hl.tables, hl.rows⟩
theorem le_stock {h : Hse} {s : List Int} {m : Nat} (hl : HseLe m h) (hs : s.length ≤ m) : HseLe m { h with stock := s } := ⟨hl.items, hl.parts, hl.prices, hs, hl.tables, hl.rows⟩
theorem le_open {h : Hse} {a : Int} {m : Nat} (hl : HseLe m h) : HseLe (m + 1) (openH h a) := by
  refine ⟨Nat.le_succ_of_le hl.items, fun x hx => Nat.le_succ_of_le (hl.parts x hx), Nat.le_succ_of_le hl.prices, Nat.le_succ_of_le hl.stock, ?_, fun x hx => ?_⟩
  · show (h.tables ++ [_]).length ≤ m + 1
    rw [List.length_append]
    have := hl.tables
    simp only [List.length_cons, List.length_nil]
    omega
  · rcases List.mem_append.1 hx with hx | hx
    · exact ⟨Nat.le_succ_of_le (hl.rows x hx).1, Nat.le_succ_of_le (hl.rows x hx).2⟩
    · obtain rfl : x = ⟨a, [], []⟩ := by simpa using hx
      exact ⟨Nat.zero_le _, Nat.zero_le _⟩
theorem le_order {h : Hse} {t i c : Int} {m : Nat} (hl : HseLe m h) (ht : hasN t h.tables.length = true) : HseLe (m + 1) (orderH h t i c) := by
  obtain ⟨k, rfl, hk⟩ := hasN_nat ht
  refine ⟨Nat.le_succ_of_le hl.items, fun x hx => Nat.le_succ_of_le (hl.parts x hx), Nat.le_succ_of_le hl.prices, ?_, ?_, fun x hx => ?_⟩
  · show (h.stock.set _ _).length ≤ m + 1
    rw [List.length_set]; exact Nat.le_succ_of_le hl.stock
  · show (h.tables.set _ _).length ≤ m + 1
    rw [List.length_set]; exact Nat.le_succ_of_le hl.tables
  · rcases List.mem_or_eq_of_mem_set hx with hx | hx
    · exact ⟨Nat.le_succ_of_le (hl.rows x hx).1, Nat.le_succ_of_le (hl.rows x hx).2⟩
    · subst hx
      have hy : tblOf h (k : Int) ∈ h.tables := by
        unfold tblOf
        rw [Int.toNat_natCast, getD_tbl (List.getElem?_eq_getElem hk)]
        exact List.getElem_mem hk
      have := hl.rows _ hy
      unfold moreT TblLe
      simp only [List.length_append, List.length_cons, List.length_nil]
      unfold TblLe at this
      omega
theorem le_close {h : Hse} {t : Int} {m : Nat} (hl : HseLe m h) : HseLe m (closeH h t) := by
  refine ⟨hl.items, hl.parts, hl.prices, hl.stock, ?_, fun x hx => hl.rows x (List.mem_of_mem_eraseIdx hx)⟩
  show (h.tables.eraseIdx _).length ≤ m
  have := List.length_eraseIdx_le h.tables t.toNat
  have := hl.tables
  omega

theorem rangeOk_atH {m : Int} {xs : List Int} {i : Nat} {p : Int} (hp : xs[i]? = some p) (h : ¬ (0 ≤ p ∧ p ≤ m)) : rangeOk m xs = false := by
  cases e : rangeOk m xs with
  | false => rfl
  | true => exact absurd (rangeOk_at e hp) h
theorem bad_stock {h : Hse} {i : Nat} {v : Int} (hv : h.stock[i]? = some v) (h2 : ¬ (0 ≤ v ∧ v ≤ 50)) : houseOk h = false := by
  cases e : houseOk h with
  | false => rfl
  | true =>
    obtain ⟨-, -, h3, -⟩ := houseOk_parts e
    rw [rangeOk_atH hv h2] at h3
    cases h3
theorem bad_cash {h : Hse} (h2 : ¬ (0 ≤ h.cash ∧ h.cash ≤ 99999)) : houseOk h = false := by
  cases e : houseOk h with
  | false => rfl
  | true => exact absurd (houseOk_parts e).2.2.2.1 h2
theorem bad_table {h : Hse} {x : Tbl} (hx : x ∈ h.tables) (h2 : tblOk h.items x = false) : houseOk h = false := by
  cases e : houseOk h with
  | false => rfl
  | true =>
    have := (houseOk_parts e).2.2.2.2.2 x hx
    rw [h2] at this
    cases this
theorem tbl_not {l : List Item} {x : Tbl} (h : ticketOkL x.dishes = false ∨ ∃ o ∈ x.of, hasI (freeL l x.avoid) o = false) : tblOk l x = false := by
  unfold tblOk
  rcases h with h | ⟨o, ho, h⟩
  · rw [h, Bool.false_and, Bool.and_false]
  · have : x.of.all (hasI (freeL l x.avoid)) = false := by
      cases e : x.of.all (hasI (freeL l x.avoid)) with
      | false => rfl
      | true => have := List.all_eq_true.1 e o ho; rw [h] at this; cases this
    rw [this, Bool.and_false, Bool.and_false, Bool.and_false]

/-- The reference model's own questions. -/
theorem buy_over {h : Hse} {i u : Int} (hi : hasN i h.items.length = true) (hk : houseOk h = true) (h1 : 50 < h.stock.getD i.toNat 0 + u) : houseOk (buyH h i u) = false := by
  obtain ⟨k, rfl, hk2⟩ := hasN_nat hi
  obtain ⟨-, hs, -⟩ := houseOk_parts hk
  refine bad_stock (i := k) (v := h.stock.getD k 0 + u) ?_ (by rw [Int.toNat_natCast] at h1; omega)
  show (h.stock.set _ _)[k]? = _
  rw [Int.toNat_natCast, List.getElem?_set_self (by omega)]
theorem buy_poor {h : Hse} {i u : Int} (h1 : h.cash < u * h.prices.getD i.toNat 0) : houseOk (buyH h i u) = false :=
  bad_cash (by show ¬ (0 ≤ h.cash - u * h.prices.getD i.toNat 0 ∧ _); omega)
theorem make_over {h : Hse} {s : List Int} {i : Nat} {v : Int} (hv : s[i]? = some v) (h1 : 50 < v) : houseOk { h with stock := s } = false :=
  bad_stock (h := { h with stock := s }) hv (by omega)
theorem order_none {h : Hse} {t i c : Int} (hi : hasN i h.items.length = true) (hk : houseOk h = true) (h1 : h.stock.getD i.toNat 0 < 1) : houseOk (orderH h t i c) = false := by
  obtain ⟨k, rfl, hk2⟩ := hasN_nat hi
  obtain ⟨-, hs, -⟩ := houseOk_parts hk
  refine bad_stock (i := k) (v := h.stock.getD k 0 - 1) ?_ (by rw [Int.toNat_natCast] at h1; omega)
  show (h.stock.set _ _)[k]? = _
  rw [Int.toNat_natCast, List.getElem?_set_self (by omega)]
theorem order_mem {h : Hse} {t i c : Int} (ht : hasN t h.tables.length = true) : moreT (tblOf h t) i c ∈ (orderH h t i c).tables := by
  obtain ⟨k, rfl, hk⟩ := hasN_nat ht
  show _ ∈ h.tables.set _ _
  rw [Int.toNat_natCast]
  exact List.mem_of_getElem? (List.getElem?_set_self hk)
theorem order_not {h : Hse} {t i c : Int} (ht : hasN t h.tables.length = true) (h1 : hasI (freeL h.items (tblOf h t).avoid) i = false) : houseOk (orderH h t i c) = false :=
  bad_table (order_mem ht) (tbl_not (.inr ⟨i, by unfold moreT; simp, h1⟩))
theorem order_bad {h : Hse} {t i c : Int} (ht : hasN t h.tables.length = true) (h1 : ticketOkL ((tblOf h t).dishes ++ [⟨c, 0⟩]) = false) : houseOk (orderH h t i c) = false :=
  bad_table (order_mem ht) (tbl_not (.inl h1))
theorem close_rich {h : Hse} {t : Int} (h1 : 99999 < h.cash + billL h.prices (tblOf h t)) : houseOk (closeH h t) = false :=
  bad_cash (by show ¬ (_ ∧ h.cash + billL h.prices (tblOf h t) ≤ 99999); omega)

theorem putTks_len : ∀ (l : List Tbl) (s : List (List Order)), (putTks l s).length = l.length
  | [], _ => rfl
  | x :: r, [] => rfl
  | x :: r, t :: s => by rw [putTks, List.length_cons, putTks_len r s, List.length_cons]
theorem putTks_at : ∀ {l : List Tbl} {s : List (List Order)} {i : Nat} {x : Tbl}, l[i]? = some x → (putTks l s)[i]? = some (match s[i]? with | some t => ⟨x.avoid, t, x.of⟩ | none => x)
  | [], _, i, x, h => by simp at h
  | y :: r, [], i, x, h => by rw [show putTks (y :: r) [] = y :: r from rfl, h]; simp
  | y :: r, t :: s, 0, x, h => by
    obtain rfl : y = x := by simpa using h
    rfl
  | y :: r, t :: s, i + 1, x, h => by
    rw [putTks]
    have := putTks_at (l := r) (s := s) (i := i) (x := x) (by simpa using h)
    simpa using this
/-- The first k tickets of a list are put into the tables. -/
theorem putTks_step {l : List Tbl} {s : List (List Order)} {k : Nat} {x : Tbl} {t : List Order} (hx : l[k]? = some x) (ht : s[k]? = some t) : (putTks l (s.take k)).set k ⟨x.avoid, t, x.of⟩ = putTks l (s.take (k + 1)) := by
  have hk : k < l.length := (List.getElem?_eq_some_iff.1 hx).1
  apply List.ext_getElem?
  intro j
  by_cases hj : j < l.length
  · have hy := List.getElem?_eq_getElem hj
    rw [putTks_at hy]
    by_cases e : j = k
    · subst e
      rw [hy] at hx
      injection hx with hx
      rw [List.getElem?_set_self (by rw [putTks_len]; exact hk), List.getElem?_take_of_lt (by omega), ht, hx]
    · rw [List.getElem?_set_ne (fun e' => e e'.symm), putTks_at hy]
      by_cases e2 : j < k
      · rw [List.getElem?_take_of_lt e2, List.getElem?_take_of_lt (by omega)]
      · rw [List.getElem?_take_eq_none (by omega), List.getElem?_take_eq_none (by omega)]
  · rw [List.getElem?_eq_none (by rw [List.length_set, putTks_len]; omega), List.getElem?_eq_none (by rw [putTks_len]; omega)]
theorem putTks_nil (l : List Tbl) : putTks l [] = l := by cases l <;> rfl
theorem work_len (l : List (List Order)) (h : kitchenOkL l = true) : (workStepL l).1.length = l.length := by
  unfold workStepL
  rw [if_pos h]
  split
  · exact putK_len _ _ _ _
  · split
    · exact putK_len _ _ _ _
    · split
      · rfl
      · exact putK_len _ _ _ _
end Go.Proofs.YtmepnilnlpoodaaDoor
