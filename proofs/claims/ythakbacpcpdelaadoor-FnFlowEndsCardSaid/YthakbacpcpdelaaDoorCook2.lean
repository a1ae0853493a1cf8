/- Burners: BurnEnd and BurnList; contracts of the program and of the reference model.
   Conditions: lists have at most 1048576 elements. -/
import Derived.Test.YthakbacpcpdelaaDoorCook1
import Derived.Test.YthakbacpcpdelaaDoorTab
import Derived.Test.YthakbacpcpdelaaDoorSlKit
namespace Go.Proofs.YthakbacpcpdelaaDoor
open Go.RowKit

def loadGo (j : Int) : List Int → List Int → Int
  | o :: r, s :: t => (if o = j then s else 0) + loadGo j r t
  | _, _ => 0
def burnEndL (spans : List Int) (b : Int) (on : List Int) : Int :=
  if burnOkL spans b on = true then maxFrom 0 (tab b.toNat (fun j => loadGo j on spans)) else -1

theorem burnOkL_parts {spans on : List Int} {b : Int} (h : burnOkL spans b on = true) : spansOk spans = true ∧ on.length = spans.length ∧ rangeOk (b - 1) on = true ∧ ∃ n : Nat, b = n ∧ 1 ≤ n ∧ n ≤ 3 := by
  unfold burnOkL at h
  simp only [Bool.and_eq_true, decide_eq_true_eq] at h
  obtain ⟨h1, h2⟩ := burnFit_parts h.1
  exact ⟨h1, by omega, h.2.2, h2⟩

theorem loadGo_range {j : Int} : ∀ {on spans : List Int}, (∀ s ∈ spans, 0 ≤ s ∧ s ≤ 30) → 0 ≤ loadGo j on spans ∧ loadGo j on spans ≤ 30 * spans.length
  | [], spans, _ => by unfold loadGo; omega
  | o :: r, [], _ => by unfold loadGo; simp
  | o :: r, s :: t, h => by
    have ih := loadGo_range (j := j) (on := r) (spans := t) (fun x hx => h x (by simp [hx]))
    have hs := h s (by simp)
    unfold loadGo
    simp only [List.length_cons, Int.natCast_add, Int.natCast_one]
    split <;> omega

theorem zeros_tab (w : World) {lo : Nat} (n : Nat) (hlo : lo ≤ w.heap.size) (hn : n ≤ 1048576) : IntSl (w.alloc (.cells (madeCells #[.int .i64 0] n) 3)) lo (.slice (some ⟨w.heap.size, 0, none⟩) n n) (tab n (fun _ => 0)) := by
  have h : OwnInts (w.alloc (.cells (madeCells #[.int .i64 0] n) 3)) w.heap.size (tab n (fun _ => 0)) := by
    unfold OwnInts
    rw [tab_len]
    exact (World.rowIs_made _ _ _ _).congr (fun i hi => by simp [tab, hi])
  have := h.sl hlo (by rw [tab_len]; exact hn)
  rw [tab_len] at this
  exact this

theorem tab_drop {n k : Nat} (f : Nat → Int) (h : k < n) : (tab n f).drop k = f k :: (tab n f).drop (k + 1) := by
  have hk : k < (tab n f).length := by rw [tab_len]; exact h
  rw [List.drop_eq_getElem_cons hk]
  congr 1
  have := tab_at (f := f) h
  rw [List.getElem?_eq_getElem hk] at this
  injection this

end Go.Proofs.YthakbacpcpdelaaDoor
