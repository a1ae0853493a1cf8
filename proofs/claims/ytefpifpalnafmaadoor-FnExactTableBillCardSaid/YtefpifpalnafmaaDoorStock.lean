/- Lots and wants: what is valid, what can be used on a day, what can be taken; contracts of the program and of the reference model.
   Conditions: lists have at most 1048576 elements. -/
import Derived.Test.YtefpifpalnafmaaDoorMarks2
namespace Go.Proofs.YtefpifpalnafmaaDoor
open Go.RowKit

def lotOk (x : Lot) : Bool := inR x.many 0 9 && inR x.last 0 5
def lotsOk (l : List Lot) : Bool := decide (l.length ≤ 5) && l.all lotOk
def wantsOk (xs : List Int) : Bool := decide (xs.length ≤ 6) && rangeOk 50 xs
def usab (x : Lot) (day : Int) : Int := if x.last < day then 0 else x.many
def unitsGo (day : Int) : List Lot → Int
  | [] => 0
  | x :: r => usab x day + unitsGo day r
def unitsL (l : List Lot) (day : Int) : Int := if lotsOk l = true then unitsGo day l else -1
def takeGo (day : Int) : List Lot → List Int → Bool
  | x :: r, t :: s => inR t 0 (usab x day) && takeGo day r s
  | _, _ => true
def takeOkL (l : List Lot) (day : Int) (take : List Int) : Bool := lotsOk l && (decide (take.length = l.length) && takeGo day l take)

theorem lotsOk_len {l : List Lot} (h : lotsOk l = true) : l.length ≤ 5 := by
  unfold lotsOk at h
  simp at h
  exact h.1

theorem lotsOk_at {l : List Lot} (h : lotsOk l = true) {x : Lot} (hx : x ∈ l) : 0 ≤ x.many ∧ x.many ≤ 9 ∧ 0 ≤ x.last ∧ x.last ≤ 5 := by
  unfold lotsOk at h
  simp only [Bool.and_eq_true, List.all_eq_true] at h
  have := h.2 x hx
  unfold lotOk at this
  simp only [Bool.and_eq_true, inR_iff] at this
  omega

theorem usab_range {x : Lot} (h : 0 ≤ x.many ∧ x.many ≤ 9 ∧ 0 ≤ x.last ∧ x.last ≤ 5) (day : Int) : 0 ≤ usab x day ∧ usab x day ≤ 9 := by
  unfold usab
  split <;> omega

theorem allInRange_self (A : Option Addr) (c : Nat) (xs : List Int) (most : Int) (w : World) (h1 : IntsAt w A xs) (hl : xs.length ≤ 1048576) :
    Calls Tryd.prog 35 #[.slice A xs.length c, .int .i64 (xs.length : Int), .int .i64 most] w fun e w' => e = .returned (.bool (rangeOk most xs)) ∧ Below w.heap.size w w' :=
  (allInRange_any A c xs (xs.length : Int) most w h1 hl).mono fun e w' ⟨he, hb⟩ => ⟨by rw [he, decide_eq_true rfl, Bool.true_and], hb⟩

def stockOk (l : List Lot) (xs : List Int) : Bool := lotsOk l && wantsOk xs

end Go.Proofs.YtefpifpalnafmaaDoor
