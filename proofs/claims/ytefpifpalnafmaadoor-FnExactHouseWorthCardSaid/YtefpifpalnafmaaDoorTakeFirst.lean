/- Contracts of TakeFirst, of the program and of the reference model: both make one list of numbers, which the call owns.
   Conditions: lists have at most 1048576 elements. -/
import Derived.Test.YtefpifpalnafmaaDoorTakeDo
namespace Go.Proofs.YtefpifpalnafmaaDoor
open Go.RowKit

def nilLot : Lot := ⟨0, 0⟩

/-- One pass over the first k lots: what spoils on the day 'last' is taken. -/
def tfK (l : List Lot) (day last : Int) : Nat → (Nat → Int) × Int → (Nat → Int) × Int
  | 0, s => s
  | k + 1, s =>
    if (l.getD k nilLot).last = last then
      ((fun j => if j = k then min (tfK l day last k s).2 (usab (l.getD k nilLot) day) else (tfK l day last k s).1 j), (tfK l day last k s).2 - min (tfK l day last k s).2 (usab (l.getD k nilLot) day))
    else tfK l day last k s

/-- The passes of the first m days. -/
def tfL (l : List Lot) (day want : Int) : Nat → (Nat → Int) × Int
  | 0 => (fun _ => 0, want)
  | m + 1 => tfK l day m l.length (tfL l day want m)

def takeFirstL (l : List Lot) (day want : Int) : List Int := if (lotsOk l && inR want 0 50) = true then tab l.length (tfL l day want 6).1 else []

theorem takeFirstL_len (l : List Lot) (day want : Int) : (takeFirstL l day want).length ≤ l.length := by
  unfold takeFirstL
  split
  · rw [tab_len]; exact Nat.le_refl _
  · simp

theorem getD_ok {l : List Lot} (h : lotsOk l = true) (k : Nat) : 0 ≤ (l.getD k nilLot).many ∧ (l.getD k nilLot).many ≤ 9 ∧ 0 ≤ (l.getD k nilLot).last ∧ (l.getD k nilLot).last ≤ 5 := by
  by_cases hk : k < l.length
  · rw [show l.getD k nilLot = l[k] from by simp [hk]]
    exact lotsOk_at h (List.getElem_mem hk)
  · rw [show l.getD k nilLot = nilLot from by simp [hk]]
    decide

theorem tfK_range {l : List Lot} (h : lotsOk l = true) (day last : Int) : ∀ (k : Nat) (s : (Nat → Int) × Int), 0 ≤ s.2 → s.2 ≤ 50 → 0 ≤ (tfK l day last k s).2 ∧ (tfK l day last k s).2 ≤ 50
  | 0, s, h0, h1 => ⟨h0, h1⟩
  | k + 1, s, h0, h1 => by
    have ih := tfK_range h day last k s h0 h1
    have hu := usab_range (getD_ok h k) day
    unfold tfK
    split
    · show 0 ≤ (tfK l day last k s).2 - min (tfK l day last k s).2 (usab (l.getD k nilLot) day) ∧ (tfK l day last k s).2 - min (tfK l day last k s).2 (usab (l.getD k nilLot) day) ≤ 50
      omega
    · exact ih

theorem tfL_range {l : List Lot} (h : lotsOk l = true) (day want : Int) (h0 : 0 ≤ want) (h1 : want ≤ 50) : ∀ (m : Nat), 0 ≤ (tfL l day want m).2 ∧ (tfL l day want m).2 ≤ 50
  | 0 => ⟨h0, h1⟩
  | m + 1 => tfK_range h day m _ _ (tfL_range h day want h0 h1 m).1 (tfL_range h day want h0 h1 m).2

/-- Nothing is taken of what spoils before the day. -/
theorem tfK_idle {l : List Lot} (h : lotsOk l = true) {day last : Int} (hd : last < day) {want : Int} (hw : 0 ≤ want) : ∀ (k : Nat) (f : Nat → Int), (∀ j, f j = 0) → tfK l day last k (f, want) = (fun _ => 0, want)
  | 0, f, hf => by
    have : f = fun _ => 0 := funext hf
    rw [this]; rfl
  | k + 1, f, hf => by
    have ih := tfK_idle h hd hw k f hf
    unfold tfK
    rw [ih]
    split
    · rename_i hl
      have hu : usab (l.getD k nilLot) day = 0 := by unfold usab; rw [if_pos (by omega)]
      rw [hu, Int.min_eq_right hw]
      simp
    · rfl

theorem tfL_idle {l : List Lot} (h : lotsOk l = true) {day want : Int} (hw : 0 ≤ want) : ∀ (m : Nat), (m : Int) ≤ max day 0 → tfL l day want m = (fun _ => 0, want)
  | 0, _ => rfl
  | m + 1, hm => by
    unfold tfL
    rw [tfL_idle h hw m (by omega)]
    exact tfK_idle h (by omega) hw _ _ (fun _ => rfl)

theorem zeros_sl {w : World} {lo : Nat} (n : Nat) (hlo : lo ≤ w.heap.size) (hn : n ≤ 1048576) : IntSl (w.alloc (.cells (madeCells #[.int .i64 0] n) 3)) lo (.slice (some ⟨w.heap.size, 0, none⟩) n n) (tab n (fun _ => 0)) := by
  have h : OwnInts (w.alloc (.cells (madeCells #[.int .i64 0] n) 3)) w.heap.size (tab n (fun _ => 0)) := by
    unfold OwnInts
    rw [tab_len]
    exact (World.rowIs_made _ _ _ _).congr (fun i hi => by simp [tab, hi])
  have := h.sl hlo (by rw [tab_len]; exact hn)
  rw [tab_len] at this
  exact this

end Go.Proofs.YtefpifpalnafmaaDoor
