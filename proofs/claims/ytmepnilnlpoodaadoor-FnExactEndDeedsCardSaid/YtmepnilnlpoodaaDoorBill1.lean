/- Bill1: bills of tables and what a house is worth; contracts of the program.
   Conditions: the table of the states' pieces lies as laid. -/
import Derived.Test.YtmepnilnlpoodaaDoorHouse2
import Derived.Test.YtmepnilnlpoodaaDoorCost
import Derived.StillTail
import Derived.OrdersIn
namespace Go.Proofs.YtmepnilnlpoodaaDoor
open Go.RowKit Go.ChangeShapes Go.WideShapes Go.ChangeAt Go.Deep

def billGo (ps : List Int) : List Order → List Int → Int
  | d :: ds, o :: os => (if d.state = 3 then ps.getD o.toNat 0 else 0) + billGo ps ds os
  | _, _ => 0
def billL (ps : List Int) (x : Tbl) : Int := billGo ps x.dishes x.of
def sumBill (ps : List Int) : List Tbl → Int
  | [] => 0
  | x :: r => billL ps x + sumBill ps r
def tableBill (h : Hse) (n : Int) : Int := if (houseOk h && inR n 0 ((h.tables.length : Int) - 1)) = true then billL h.prices (h.tables.getD n.toNat instTbl.default) else -1
def houseWorth (h : Hse) : Int := if houseOk h = true then h.cash + sumBill h.prices h.tables else -1

/-- What is known of the tables of a valid house. -/
structure BillFit (ps : List Int) (x : Tbl) : Prop where
  len : x.of.length = x.dishes.length
  few : x.dishes.length ≤ 6
  rng : ∀ o ∈ x.of, 0 ≤ o ∧ o < (ps.length : Int)
  val : rangeOk 20 ps = true
theorem freeFrom_rng (l : List Item) (avoid : Int) : ∀ (r : List Item) (k : Nat), ∀ o ∈ freeFrom l avoid k r, (k : Int) ≤ o ∧ o < (k : Int) + r.length
  | [], _, o, ho => by simp [freeFrom] at ho
  | x :: r, k, o, ho => by
    rw [freeFrom] at ho
    rcases List.mem_append.1 ho with h | h
    · split at h
      · obtain rfl : o = k := by simpa using h
        rw [List.length_cons]
        omega
      · cases h
    · have := freeFrom_rng l avoid r (k + 1) o h
      rw [List.length_cons]
      omega
theorem freeL_rng {l : List Item} {avoid o : Int} (h : o ∈ freeL l avoid) : 0 ≤ o ∧ o < (l.length : Int) := by
  unfold freeL at h
  split at h
  · have := freeFrom_rng l avoid l 0 o h
    omega
  · cases h
theorem hasI_mem {xs : List Int} {o : Int} (h : hasI xs o = true) : o ∈ xs := by
  unfold hasI at h
  obtain ⟨y, hy, e⟩ := List.any_eq_true.1 h
  obtain rfl : y = o := by simpa using e
  exact hy
theorem houseOk_parts {h : Hse} (hk : houseOk h = true) : pricesOk h.items h.prices = true ∧ h.stock.length = h.items.length ∧ rangeOk 50 h.stock = true ∧ (0 ≤ h.cash ∧ h.cash ≤ 99999) ∧ h.tables.length ≤ 4 ∧ ∀ x ∈ h.tables, tblOk h.items x = true := by
  unfold houseOk at hk
  simp only [Bool.and_eq_true, decide_eq_true_eq, inR_iff, List.all_eq_true] at hk
  obtain ⟨h1, ⟨h2, h3⟩, h4, h5, h6⟩ := hk
  exact ⟨h1, by omega, h3, h4, h5, h6⟩
theorem tblOk_parts {l : List Item} {x : Tbl} (hk : tblOk l x = true) : (0 ≤ x.avoid ∧ x.avoid ≤ 31) ∧ ticketOkL x.dishes = true ∧ x.of.length = x.dishes.length ∧ ∀ o ∈ x.of, o ∈ freeL l x.avoid := by
  unfold tblOk at hk
  simp only [Bool.and_eq_true, decide_eq_true_eq, inR_iff, List.all_eq_true] at hk
  obtain ⟨h1, h2, h3, h4⟩ := hk
  exact ⟨h1, h2, by omega, fun o ho => hasI_mem (h4 o ho)⟩
theorem house_fit {h : Hse} (hk : houseOk h = true) {x : Tbl} (hx : x ∈ h.tables) : BillFit h.prices x := by
  obtain ⟨h1, -, -, -, -, h6⟩ := houseOk_parts hk
  obtain ⟨-, t2, t3, t4⟩ := tblOk_parts (h6 x hx)
  obtain ⟨hI, hpl, hpr⟩ := pricesOk_at h1
  exact ⟨t3, ticketOk_len t2, fun o ho => by have := freeL_rng (t4 o ho); omega, hpr⟩
theorem billGo_rng {ps : List Int} (hp : rangeOk 20 ps = true) : ∀ (ds : List Order) (os : List Int), 0 ≤ billGo ps ds os ∧ billGo ps ds os ≤ 20 * ds.length
  | [], _ => by simp [billGo]
  | d :: ds, [] => by simp [billGo]; omega
  | d :: ds, o :: os => by
    have a := billGo_rng hp ds os
    have b : 0 ≤ ps.getD o.toNat 0 ∧ ps.getD o.toNat 0 ≤ 20 := by
      rw [List.getD_eq_getElem?_getD]
      cases e : ps[o.toNat]? with
      | none => simp
      | some p => exact rangeOk_at hp e
    rw [billGo, List.length_cons]
    split <;> omega
theorem billL_rng {ps : List Int} {x : Tbl} (hf : BillFit ps x) : 0 ≤ billL ps x ∧ billL ps x ≤ 120 := by
  have := billGo_rng hf.val x.dishes x.of
  have := hf.few
  unfold billL
  omega

theorem tableBill_no {h : Hse} {n : Int} (hh : (houseOk h && inR n 0 ((h.tables.length : Int) - 1)) = false) : tableBill h n = -1 := by unfold tableBill; rw [if_neg (by rw [hh]; decide)]

theorem sumBill_rng {ps : List Int} : ∀ (l : List Tbl), (∀ x ∈ l, BillFit ps x) → 0 ≤ sumBill ps l ∧ sumBill ps l ≤ 120 * l.length
  | [], _ => by simp [sumBill]
  | x :: r, hf => by
    have a := sumBill_rng r (fun y hy => hf y (by simp [hy]))
    have b := billL_rng (hf x (by simp))
    rw [sumBill, List.length_cons]
    omega

end Go.Proofs.YtmepnilnlpoodaaDoor
