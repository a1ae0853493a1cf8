/- Contracts of UseSum and UseOk, of the program and of the reference model.
   Conditions: lists have at most 1048576 elements. -/
import Derived.Test.YtbkelmolhgofpaaDoorTables
namespace Go.Proofs.YtbkelmolhgofpaaDoor
open Go.RowKit

def useSumW (rows : List (List Int)) : Int := sumW (rows.map sumW)

theorem drop_at {α : Type} {xs : List α} {k : Nat} {x : α} (h : xs[k]? = some x) : xs.drop k = x :: xs.drop (k + 1) := by
  obtain ⟨hk, rfl⟩ := List.getElem?_eq_some_iff.1 h
  exact List.drop_eq_getElem_cons hk

def useOkGo : Int → List Lot → List Int → List (List Int) → Bool
  | day, l, q :: r, t :: s => takeOkL l day t && (decide (sumL t ≤ q) && useOkGo (day + 1) (takeDoL l day t) r s)
  | _, _, _, _ => true
def useOkL (l : List Lot) (wants : List Int) (use : List (List Int)) : Bool := stockOk l wants && (decide (use.length = wants.length) && useOkGo 0 l wants use)

theorem takeGo_all {day : Int} {l : List Lot} {take : List Int} (hl : lotsOk l = true) (hn : take.length = l.length) (h : takeGo day l take = true) : ∀ t ∈ take, 0 ≤ t ∧ t ≤ 9 := by
  intro t ht
  obtain ⟨i, hi, rfl⟩ := List.getElem_of_mem ht
  have hil : i < l.length := by omega
  have a := takeGo_at h (List.getElem?_eq_getElem hil) (List.getElem?_eq_getElem hi)
  have b := usab_range (lotsOk_at hl (List.getElem_mem hil)) day
  omega

theorem takeOkL_sum {l : List Lot} {day : Int} {take : List Int} (h : takeOkL l day take = true) : sumW take = sumL take := by
  obtain ⟨h1, h2, h3⟩ := takeOkL_parts h
  have h5 := lotsOk_len h1
  exact sumW_plain (hi := 9) (takeGo_all h1 h2 h3) (by omega) (by omega)

theorem IntsAt.drewN {w : World} {A : Option Addr} {xs : List Int} (h : IntsAt w A xs) (n : Nat) : IntsAt (w.drewN n) A xs := h

end Go.Proofs.YtbkelmolhgofpaaDoor
