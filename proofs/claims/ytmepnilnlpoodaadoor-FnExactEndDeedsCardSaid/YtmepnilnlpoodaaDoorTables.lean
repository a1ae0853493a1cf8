/- Lots and wants: what is valid, what can be used on a day, what can be taken; contracts of the program and of the reference model.
   Conditions: lists have at most 1048576 elements.
   Contracts of TakeOk, of the program and of the reference model.
   Conditions: lists have at most 1048576 elements.
   Contracts of TakeDo, of the program and of the reference model: both make one list of lots, which the call owns.
   Conditions: lists have at most 1048576 elements.
   Contracts of TakeFirst, of the program and of the reference model: both make one list of numbers, which the call owns.
   Conditions: lists have at most 1048576 elements.
   Contracts of the sums of lists of numbers, of the program and of the reference model: both wrap as Go's int does.
   Conditions: lists have at most 1048576 elements.
   Tables: slices of lists of numbers, read, owned, appended to, stored into; contracts of the helpers that measure, copy and compare them, and the reading of a table among a row's arguments.
   Conditions: the bounds in each statement. -/
import Derived.Test.YtmepnilnlpoodaaDoorMarks2
import Derived.Test.YtmepnilnlpoodaaDoorTab
import Derived.IntWalk
namespace Go.Proofs.YtmepnilnlpoodaaDoor
open Go.RowKit

def lotOk (x : Lot) : Bool := inR x.many 0 9 && inR x.last 0 5
def lotsOk (l : List Lot) : Bool := decide (l.length ≤ 5) && l.all lotOk
def wantsOk (xs : List Int) : Bool := decide (xs.length ≤ 6) && rangeOk 50 xs
def usab (x : Lot) (day : Int) : Int := if x.last < day then 0 else x.many
def unitsGo (day : Int) : List Lot → Int
  | [] => 0
  | x :: r => usab x day + unitsGo day r
def unitsL (l : List Lot) (day : Int) : Int := if lotsOk l = true then unitsGo day l else -1
def takeGo (day : Int) : List Lot → List Int → Bool
  | x :: r, t :: s => inR t 0 (usab x day) && takeGo day r s
  | _, _ => true
def takeOkL (l : List Lot) (day : Int) (take : List Int) : Bool := lotsOk l && (decide (take.length = l.length) && takeGo day l take)

theorem lotsOk_len {l : List Lot} (h : lotsOk l = true) : l.length ≤ 5 := by
  unfold lotsOk at h
  simp at h
  exact h.1

theorem lotsOk_at {l : List Lot} (h : lotsOk l = true) {x : Lot} (hx : x ∈ l) : 0 ≤ x.many ∧ x.many ≤ 9 ∧ 0 ≤ x.last ∧ x.last ≤ 5 := by
  unfold lotsOk at h
  simp only [Bool.and_eq_true, List.all_eq_true] at h
  have := h.2 x hx
  unfold lotOk at this
  simp only [Bool.and_eq_true, inR_iff] at this
  omega

theorem usab_range {x : Lot} (h : 0 ≤ x.many ∧ x.many ≤ 9 ∧ 0 ≤ x.last ∧ x.last ≤ 5) (day : Int) : 0 ≤ usab x day ∧ usab x day ≤ 9 := by
  unfold usab
  split <;> omega

theorem allInRange_self (A : Option Addr) (c : Nat) (xs : List Int) (most : Int) (w : World) (h1 : IntsAt w A xs) (hl : xs.length ≤ 1048576) :
    Calls Tryd.prog 52 #[.slice A xs.length c, .int .i64 (xs.length : Int), .int .i64 most] w fun e w' => e = .returned (.bool (rangeOk most xs)) ∧ Below w.heap.size w w' :=
  (allInRange_any A c xs (xs.length : Int) most w h1 hl).mono fun e w' ⟨he, hb⟩ => ⟨by rw [he, decide_eq_true rfl, Bool.true_and], hb⟩

def stockOk (l : List Lot) (xs : List Int) : Bool := lotsOk l && wantsOk xs

end Go.Proofs.YtmepnilnlpoodaaDoor

namespace Go.Proofs.YtmepnilnlpoodaaDoor
open Go.RowKit

theorem takeTest {x : Lot} {t day : Int} (hx : 0 ≤ x.many) : inR t 0 (usab x day) = (inR t 0 x.many && !(decide (0 < t) && decide (x.last < day))) := by
  unfold usab inR
  rw [Bool.eq_iff_iff]
  by_cases h : x.last < day
  · simp [h]; omega
  · simp [h]

end Go.Proofs.YtmepnilnlpoodaaDoor

namespace Go.Proofs.YtmepnilnlpoodaaDoor
open Go.RowKit

def takeDoGo : List Lot → List Int → List Lot
  | x :: r, t :: s => ⟨x.many - t, x.last⟩ :: takeDoGo r s
  | _, _ => []
def takeDoL (l : List Lot) (day : Int) (take : List Int) : List Lot := if takeOkL l day take = true then takeDoGo l take else []

theorem takeDoGo_len : ∀ (l : List Lot) (take : List Int), take.length = l.length → (takeDoGo l take).length = l.length
  | [], [], _ => rfl
  | x :: r, t :: s, h => by simp only [takeDoGo, List.length_cons]; rw [takeDoGo_len r s (by simpa using h)]
  | [], _ :: _, h => by simp at h
  | _ :: _, [], h => by simp at h

theorem takeDoGo_at : ∀ {l : List Lot} {take : List Int} {k : Nat} {x : Lot} {t : Int}, l[k]? = some x → take[k]? = some t → (takeDoGo l take)[k]? = some ⟨x.many - t, x.last⟩
  | [], _, k, x, t, h, _ => by simp at h
  | _ :: _, [], k, x, t, _, h => by simp at h
  | y :: r, u :: s, 0, x, t, h, h' => by
    obtain rfl : y = x := by simpa using h
    obtain rfl : u = t := by simpa using h'
    rfl
  | y :: r, u :: s, k + 1, x, t, h, h' => by
    simp only [takeDoGo, List.getElem?_cons_succ]
    exact takeDoGo_at (by simpa using h) (by simpa using h')

theorem takeGo_at {day : Int} : ∀ {l : List Lot} {take : List Int} {k : Nat} {x : Lot} {t : Int}, takeGo day l take = true → l[k]? = some x → take[k]? = some t → 0 ≤ t ∧ t ≤ usab x day
  | [], _, k, x, t, _, h, _ => by simp at h
  | _ :: _, [], k, x, t, _, _, h => by simp at h
  | y :: r, u :: s, k, x, t, hg, h, h' => by
    unfold takeGo at hg
    simp only [Bool.and_eq_true, inR_iff] at hg
    cases k with
    | zero =>
      obtain rfl : y = x := by simpa using h
      obtain rfl : u = t := by simpa using h'
      exact hg.1
    | succ k => exact takeGo_at hg.2 (by simpa using h) (by simpa using h')

theorem takeOkL_parts {l : List Lot} {day : Int} {take : List Int} (h : takeOkL l day take = true) : lotsOk l = true ∧ take.length = l.length ∧ takeGo day l take = true := by
  unfold takeOkL at h
  simp only [Bool.and_eq_true, decide_eq_true_eq] at h
  exact ⟨h.1, h.2.1, h.2.2⟩

theorem takeDoL_len (l : List Lot) (day : Int) (take : List Int) : (takeDoL l day take).length ≤ l.length := by
  unfold takeDoL
  split
  · rename_i h
    rw [takeDoGo_len _ _ (takeOkL_parts h).2.1]
    exact Nat.le_refl _
  · simp

end Go.Proofs.YtmepnilnlpoodaaDoor

namespace Go.Proofs.YtmepnilnlpoodaaDoor
open Go.RowKit

def nilLot : Lot := ⟨0, 0⟩

/-- One pass over the first k lots: what spoils on the day 'last' is taken. -/
def tfK (l : List Lot) (day last : Int) : Nat → (Nat → Int) × Int → (Nat → Int) × Int
  | 0, s => s
  | k + 1, s =>
    if (l.getD k nilLot).last = last then
      ((fun j => if j = k then min (tfK l day last k s).2 (usab (l.getD k nilLot) day) else (tfK l day last k s).1 j), (tfK l day last k s).2 - min (tfK l day last k s).2 (usab (l.getD k nilLot) day))
    else tfK l day last k s

/-- The passes of the first m days. -/
def tfL (l : List Lot) (day want : Int) : Nat → (Nat → Int) × Int
  | 0 => (fun _ => 0, want)
  | m + 1 => tfK l day m l.length (tfL l day want m)

def takeFirstL (l : List Lot) (day want : Int) : List Int := if (lotsOk l && inR want 0 50) = true then tab l.length (tfL l day want 6).1 else []

theorem takeFirstL_len (l : List Lot) (day want : Int) : (takeFirstL l day want).length ≤ l.length := by
  unfold takeFirstL
  split
  · rw [tab_len]; exact Nat.le_refl _
  · simp

theorem getD_ok {l : List Lot} (h : lotsOk l = true) (k : Nat) : 0 ≤ (l.getD k nilLot).many ∧ (l.getD k nilLot).many ≤ 9 ∧ 0 ≤ (l.getD k nilLot).last ∧ (l.getD k nilLot).last ≤ 5 := by
  by_cases hk : k < l.length
  · rw [show l.getD k nilLot = l[k] from by simp [hk]]
    exact lotsOk_at h (List.getElem_mem hk)
  · rw [show l.getD k nilLot = nilLot from by simp [hk]]
    decide

theorem tfK_range {l : List Lot} (h : lotsOk l = true) (day last : Int) : ∀ (k : Nat) (s : (Nat → Int) × Int), 0 ≤ s.2 → s.2 ≤ 50 → 0 ≤ (tfK l day last k s).2 ∧ (tfK l day last k s).2 ≤ 50
  | 0, s, h0, h1 => ⟨h0, h1⟩
  | k + 1, s, h0, h1 => by
    have ih := tfK_range h day last k s h0 h1
    have hu := usab_range (getD_ok h k) day
    unfold tfK
    split
    · show 0 ≤ (tfK l day last k s).2 - min (tfK l day last k s).2 (usab (l.getD k nilLot) day) ∧ (tfK l day last k s).2 - min (tfK l day last k s).2 (usab (l.getD k nilLot) day) ≤ 50
      omega
    · exact ih

theorem tfL_range {l : List Lot} (h : lotsOk l = true) (day want : Int) (h0 : 0 ≤ want) (h1 : want ≤ 50) : ∀ (m : Nat), 0 ≤ (tfL l day want m).2 ∧ (tfL l day want m).2 ≤ 50
  | 0 => ⟨h0, h1⟩
  | m + 1 => tfK_range h day m _ _ (tfL_range h day want h0 h1 m).1 (tfL_range h day want h0 h1 m).2

/-- Nothing is taken of what spoils before the day. -/
theorem tfK_idle {l : List Lot} (h : lotsOk l = true) {day last : Int} (hd : last < day) {want : Int} (hw : 0 ≤ want) : ∀ (k : Nat) (f : Nat → Int), (∀ j, f j = 0) → tfK l day last k (f, want) = (fun _ => 0, want)
  | 0, f, hf => by
    have : f = fun _ => 0 := funext hf
    rw [this]; rfl
  | k + 1, f, hf => by
    have ih := tfK_idle h hd hw k f hf
    unfold tfK
    rw [ih]
    split
    · rename_i hl
      have hu : usab (l.getD k nilLot) day = 0 := by unfold usab; rw [if_pos (by omega)]
      rw [hu, Int.min_eq_right hw]
      simp
    · rfl

theorem tfL_idle {l : List Lot} (h : lotsOk l = true) {day want : Int} (hw : 0 ≤ want) : ∀ (m : Nat), (m : Int) ≤ max day 0 → tfL l day want m = (fun _ => 0, want)
  | 0, _ => rfl
  | m + 1, hm => by
    unfold tfL
    rw [tfL_idle h hw m (by omega)]
    exact tfK_idle h (by omega) hw _ _ (fun _ => rfl)

theorem zeros_sl {w : World} {lo : Nat} (n : Nat) (hlo : lo ≤ w.heap.size) (hn : n ≤ 1048576) : IntSl (w.alloc (.cells (madeCells #[.int .i64 0] n) 3)) lo (.slice (some ⟨w.heap.size, 0, none⟩) n n) (tab n (fun _ => 0)) := by
  have h : OwnInts (w.alloc (.cells (madeCells #[.int .i64 0] n) 3)) w.heap.size (tab n (fun _ => 0)) := by
    unfold OwnInts
    rw [tab_len]
    exact (World.rowIs_made _ _ _ _).congr (fun i hi => by simp [tab, hi])
  have := h.sl hlo (by rw [tab_len]; exact hn)
  rw [tab_len] at this
  exact this

end Go.Proofs.YtmepnilnlpoodaaDoor

namespace Go.Proofs.YtmepnilnlpoodaaDoor
open Go.RowKit

def sumGo : Int → List Int → Int
  | s, [] => s
  | s, x :: r => sumGo (wrap64 (s + x)) r
def sumW (xs : List Int) : Int := sumGo 0 xs

/-- The plain sum. -/
def sumL : List Int → Int
  | [] => 0
  | x :: r => x + sumL r

theorem sumGo_plain : ∀ (xs : List Int) (s lo hi : Int), (∀ x ∈ xs, lo ≤ x ∧ x ≤ hi) → lo ≤ 0 → 0 ≤ hi → -1000000000000 ≤ s + lo * xs.length → s + hi * xs.length ≤ 1000000000000 → sumGo s xs = s + sumL xs
  | [], s, lo, hi, _, _, _, _, _ => by simp [sumGo, sumL]
  | x :: r, s, lo, hi, h, hlo, hhi, h0, h1 => by
    have hx := h x (by simp)
    simp only [List.length_cons, Int.natCast_add, Int.natCast_one, Int.mul_add, Int.mul_one] at h0 h1
    have hm0 : lo * (r.length : Int) ≤ 0 := Int.mul_nonpos_of_nonpos_of_nonneg hlo (by omega)
    have hm1 : 0 ≤ hi * (r.length : Int) := Int.mul_nonneg hhi (by omega)
    unfold sumGo sumL
    rw [IntWalk.wrap64_in _ (by omega), sumGo_plain r (s + x) lo hi (fun y hy => h y (by simp [hy])) hlo hhi (by omega) (by omega)]
    omega

theorem sumW_plain {xs : List Int} {hi : Int} (h : ∀ x ∈ xs, 0 ≤ x ∧ x ≤ hi) (hh : 0 ≤ hi) (hb : hi * xs.length ≤ 1000000000000) : sumW xs = sumL xs := by
  unfold sumW
  rw [sumGo_plain xs 0 0 hi h (by omega) hh (by omega) (by omega)]
  omega

theorem sumL_range {xs : List Int} {hi : Int} (h : ∀ x ∈ xs, 0 ≤ x ∧ x ≤ hi) : 0 ≤ sumL xs ∧ sumL xs ≤ hi * xs.length := by
  induction xs with
  | nil => simp [sumL]
  | cons x r ih =>
    have := ih (fun y hy => h y (by simp [hy]))
    have hx := h x (by simp)
    simp only [sumL, List.length_cons, Int.natCast_add, Int.natCast_one, Int.mul_add, Int.mul_one]
    omega

end Go.Proofs.YtmepnilnlpoodaaDoor

namespace Go.Proofs.YtmepnilnlpoodaaDoor
open Go.RowKit Go.ChangeShapes Go.WideShapes Go.ChangeAt Go.Deep

def RowsAt (w : World) (A : Option Addr) (rows : List (List Int)) : Prop :=
  ∀ i x, rows[i]? = some x → ∃ b off A' c, A = some ⟨b, off, none⟩ ∧ b < w.heap.size ∧ w.cell? ⟨b, off + i, none⟩ = some (.slice A' x.length c) ∧ IntsAt w A' x

theorem RowsAt.below {w w' : World} {A : Option Addr} {rows : List (List Int)} (h : RowsAt w A rows) (hb : Below w.heap.size w w') : RowsAt w' A rows := by
  intro i x hx
  obtain ⟨b, off, A', c, e, hlt, h1, h2⟩ := h i x hx
  exact ⟨b, off, A', c, e, Nat.lt_of_lt_of_le hlt hb.size, (hb.cell hlt).trans h1, h2.below hb⟩

section
variable {H : Type} {enc : TypeId × Value → H} {w : World} {base : Nat} {spare : Nat → Bool} {held : Bool}

end

def szRowsGo : Int → List (List Int) → Int
  | left, [] => left
  | left, x :: r => if left - x.length < 0 then -1 else szRowsGo (left - x.length) r
def szRows (left : Int) (l : List (List Int)) : Int := if left - l.length < 0 then -1 else szRowsGo (left - l.length) l

theorem szRowsGo_le : ∀ (l : List (List Int)) (left : Int), 0 ≤ szRowsGo left l → ∀ x ∈ l, (x.length : Int) ≤ left
  | [], _, _, x, hx => by simp at hx
  | y :: r, left, h, x, hx => by
    unfold szRowsGo at h
    split at h
    · omega
    · rcases List.mem_cons.1 hx with rfl | hx
      · omega
      · have := szRowsGo_le r _ h x hx
        omega

theorem szRows_le {left : Int} {l : List (List Int)} (h1 : left ≤ 1048576) (h : ¬ szRows left l < 0) : l.length ≤ 1048576 ∧ ∀ x ∈ l, x.length ≤ 1048576 := by
  unfold szRows at h
  split at h
  · omega
  · refine ⟨by omega, fun x hx => ?_⟩
    have := szRowsGo_le l (left - l.length) (by omega) x hx
    omega

theorem ownsRow_apart {w : World} {lo lo' : Nat} {e e' : TypeId} {size size' : Nat} {v v' : Value} {n n' : Nat} {xs xs' : List Value} (h : w.ownsRow lo e size v n xs) (h' : w.ownsRow lo' e' size' v' n' xs') (hne : e ≠ e') {k : Nat} (hk : v.ownBlock = some k) : v'.ownBlock ≠ some k := by
  rcases h.2 with ⟨rfl, _⟩ | ⟨g, cap, cur, rfl, _, hg, _⟩
  · cases hk
  · injection hk with hk
    subst hk
    rcases h'.2 with ⟨rfl, _⟩ | ⟨g', cap', cur', rfl, _, hg', _⟩
    · intro h; cases h
    · intro h
      injection h with h
      have h : g' = g := h
      subst h
      rw [hg] at hg'
      injection hg' with hg'
      injection hg' with _ ht _
      exact hne ht

/-- The slice value v owns, from block lo on, a table; its rows are the call's own as well, each in a block of its own. -/
def TabSl (w : World) (lo : Nat) (v : Value) (rows : List (List Int)) : Prop :=
  ∃ vs : List Value, w.ownsRow lo 23 1 v rows.length vs ∧ (∀ (i : Nat) (x : List Int), rows[i]? = some x → ∃ u, vs[i]? = some u ∧ IntSl w lo u x) ∧
    (∀ (i j : Nat) (u u' : Value) (k : Nat), i < j → vs[i]? = some u → vs[j]? = some u' → u.ownBlock = some k → u'.ownBlock ≠ some k)

theorem TabSl.form {w : World} {lo : Nat} {v : Value} {rows : List (List Int)} (h : TabSl w lo v rows) : ∃ A c, v = .slice A rows.length c ∧ RowsAt w A rows := by
  obtain ⟨vs, h1, h2, _⟩ := h
  have hlt := h1.lt
  rcases h1.2 with ⟨hv, hn⟩ | ⟨g, cap, cur, hv, _⟩
  · have : rows = [] := List.eq_nil_of_length_eq_zero hn
    subst this
    exact ⟨none, 0, hv, fun i x hx => by simp at hx⟩
  · refine ⟨some ⟨g, 0, none⟩, cap, hv, fun i p hp => ?_⟩
    subst hv
    have hi : i < rows.length := (List.getElem?_eq_some_iff.1 hp).1
    obtain ⟨u, hu, hS⟩ := h2 i p hp
    obtain ⟨A', c', rfl, hI, _⟩ := hS.form
    refine ⟨g, 0, A', c', rfl, (hlt g rfl).2, ?_, hI⟩
    rw [Nat.zero_add, World.ownsRow.cellAt h1 i (by omega)]
    exact hu

theorem TabSl.rows {w : World} {lo n c : Nat} {A : Option Addr} {rows : List (List Int)} (h : TabSl w lo (.slice A n c) rows) : RowsAt w A rows := by
  obtain ⟨A', c', e, hI⟩ := h.form
  injection e with e
  rw [e]
  exact hI

theorem TabSl.below {w w' : World} {lo : Nat} {v : Value} {rows : List (List Int)} (h : TabSl w lo v rows) (hb : Below w.heap.size w w') : TabSl w' lo v rows := by
  obtain ⟨vs, h1, h2, h3⟩ := h
  refine ⟨vs, ownsRow_below h1 hb, fun i x hx => ?_, h3⟩
  obtain ⟨u, hu, hS⟩ := h2 i x hx
  exact ⟨u, hu, hS.below hb⟩

/-- The copy of an argument: a table of the call's own. -/
def OwnTab (w : World) (g : Nat) (rows : List (List Int)) : Prop := ∃ c, TabSl w g (.slice (some ⟨g, 0, none⟩) rows.length c) rows
theorem OwnTab.below {w w' : World} {g : Nat} {rows : List (List Int)} (h : OwnTab w g rows) (hb : Below w.heap.size w w') : OwnTab w' g rows := by
  obtain ⟨c, h⟩ := h
  exact ⟨c, h.below hb⟩
theorem OwnTab.at_ {w : World} {g : Nat} {rows : List (List Int)} (h : OwnTab w g rows) : RowsAt w (some ⟨g, 0, none⟩) rows := by
  obtain ⟨c, h⟩ := h
  exact h.rows

theorem TabSl.cell {w : World} {lo g n cap : Nat} {rows : List (List Int)} (h : TabSl w lo (.slice (some ⟨g, 0, none⟩) n cap) rows) (j : Nat) (hj : j < rows.length) : ∃ u, w.cell? ⟨g, j, none⟩ = some u := by
  obtain ⟨A, c, e, hI⟩ := h.form
  injection e with e1 e2 e3
  subst e1
  obtain ⟨b, off, A', c', e, _, hc, _⟩ := hI j rows[j] (List.getElem?_eq_getElem hj)
  injection e with e
  injection e with e1 e2
  subst e1 e2
  rw [Nat.zero_add] at hc
  exact ⟨_, hc⟩

theorem TabSl.frozen {w : World} {lo g n cap : Nat} {rows : List (List Int)} (h : TabSl w lo (.slice (some ⟨g, 0, none⟩) n cap) rows) (j : Nat) : w.frozen? ⟨g, j, none⟩ = false := by
  obtain ⟨A, c, e, _⟩ := h.form
  injection e with e1 e2 e3
  subst e2
  obtain ⟨vs, h1, _⟩ := h
  exact World.ownsRow.frozenAt h1 j

theorem TabSl.lt {w : World} {lo g n cap : Nat} {rows : List (List Int)} (h : TabSl w lo (.slice (some ⟨g, 0, none⟩) n cap) rows) : g < w.heap.size := by
  obtain ⟨vs, h1, _⟩ := h
  exact (h1.lt g rfl).2

/-- A row that is younger than the table is stored into it. -/
theorem TabSl.store {W0 w : World} {lo g n cap : Nat} {rows : List (List Int)} (h : TabSl W0 lo (.slice (some ⟨g, 0, none⟩) n cap) rows) (hb : Below W0.heap.size W0 w) (hlo : lo ≤ W0.heap.size) {u : Value} {x : List Int} (hu : IntSl w W0.heap.size u x) (j : Nat) (hj : j < rows.length) :
    TabSl (w.setCell ⟨g, j, none⟩ u) lo (.slice (some ⟨g, 0, none⟩) n cap) (rows.set j x) := by
  obtain ⟨A, c, e, _⟩ := h.form
  injection e with e1 e2 e3
  subst e2
  obtain ⟨vs, h1, h2, h3⟩ := h
  have h1w := ownsRow_below h1 hb
  have hst := World.ownsRow.stored h1w j u
  have hlen : vs.length = rows.length := by have := h1.1; omega
  have keep : ∀ {v : Value} {y : List Int} {l0 : Nat}, IntSl w l0 v y → IntSl (w.setCell ⟨g, j, none⟩ u) l0 v y := fun {v y l0} hv => World.ownsRow.kept hv hst.2 (by
    cases e : v.ownBlock with
    | none => exact .inl rfl
    | some k => exact .inr (fun e' => by
        have e' : some k = some g := e'
        injection e' with e'
        subst e'
        exact ownsRow_apart hv h1w (by decide) e rfl))
  refine ⟨vs.set j u, by rw [List.length_set]; exact hst.1, fun i y hy => ?_, fun i i' v v' k hii hv hv' hk => ?_⟩
  · by_cases e : i = j
    · subst e
      rw [List.getElem?_set_self hj] at hy
      injection hy with hy
      subst hy
      exact ⟨u, List.getElem?_set_self (by omega), keep (ownsRow_mono hu hlo)⟩
    · rw [List.getElem?_set_ne (fun h => e h.symm)] at hy
      obtain ⟨v, hv, hS⟩ := h2 i y hy
      exact ⟨v, by rw [List.getElem?_set_ne (fun h => e h.symm)]; exact hv, keep (hS.below hb)⟩
  · have young : ∀ {v : Value} {i : Nat}, vs[i]? = some v → ∀ k, v.ownBlock = some k → k < W0.heap.size := fun {v i} hv k hk => by
      have hi : i < rows.length := by have := (List.getElem?_eq_some_iff.1 hv).1; omega
      obtain ⟨v', hv', hS⟩ := h2 i rows[i] (List.getElem?_eq_getElem hi)
      rw [hv] at hv'
      injection hv' with hv'
      subst hv'
      exact (World.ownsRow.lt hS k hk).2
    have old := World.ownsRow.lt hu
    by_cases e : i = j
    · subst e
      rw [List.getElem?_set_self (by omega)] at hv
      injection hv with hv
      subst hv
      rw [List.getElem?_set_ne (by omega)] at hv'
      intro hk'
      have a := young hv' k hk'
      have b := (old k hk).1
      omega
    · rw [List.getElem?_set_ne (fun h => e h.symm)] at hv
      by_cases e' : i' = j
      · subst e'
        rw [List.getElem?_set_self (by omega)] at hv'
        injection hv' with hv'
        subst hv'
        intro hk'
        have a := young hv k hk
        have b := (old k hk').1
        omega
      · rw [List.getElem?_set_ne (fun h => e' h.symm)] at hv'
        exact h3 i i' v v' k hii hv hv' hk

theorem infoRow : (Tryd.prog.info? 23).map (fun i => (i.zero, i.size, i.bytes)) = some (some (.slice none 0 0), 1, 24) := by kernel_rfl

/-- The first k rows, and nothing behind them. -/
def fillR (rows : List (List Int)) (k : Nat) : List (List Int) := rows.take k ++ List.replicate (rows.length - k) []
theorem fillR_len (rows : List (List Int)) (k : Nat) : (fillR rows k).length = rows.length := by simp [fillR]; omega
theorem fillR_all (rows : List (List Int)) : fillR rows rows.length = rows := by simp [fillR]
theorem fillR_set {rows : List (List Int)} {k : Nat} {x : List Int} (hx : rows[k]? = some x) : (fillR rows k).set k x = fillR rows (k + 1) := by
  have hk : k < rows.length := (List.getElem?_eq_some_iff.1 hx).1
  have hl : (rows.take k).length = k := by simp; omega
  unfold fillR
  obtain ⟨d, hd⟩ : ∃ d, rows.length - k = d + 1 := ⟨rows.length - k - 1, by omega⟩
  rw [hd, List.replicate_succ, List.set_append_right _ _ (by omega), hl, Nat.sub_self, List.set_cons_zero, List.take_add_one, hx, show rows.length - (k + 1) = d from by omega]
  simp

theorem fillR_zero (w : World) (lo : Nat) (rows : List (List Int)) (hlo : lo ≤ w.heap.size) (hn : rows.length ≤ 1048576) :
    TabSl (w.alloc (.cells (madeCells #[.slice none 0 0] rows.length) 23)) lo (.slice (some ⟨w.heap.size, 0, none⟩) rows.length rows.length) (fillR rows 0) := by
  have hrow := World.rowIs_made w (.slice none 0 0) rows.length 23
  have h0 : fillR rows 0 = List.replicate rows.length [] := by simp [fillR]
  rw [h0]
  refine ⟨List.replicate rows.length (.slice none 0 0), ?_, fun i x hx => ?_, fun i j u u' k _ hu _ hk => ?_⟩
  · rw [List.length_replicate]
    exact ownsRow_of_row (size := 1) (n := rows.length) (by rw [Nat.mul_one]; exact hrow) hlo (by unfold maxLen; omega) (by simp) (fun i hi => by
      rw [Nat.mul_one] at hi
      simp [hi])
  · rw [List.getElem?_replicate] at hx
    split at hx
    · rename_i hi
      injection hx with hx
      subst hx
      exact ⟨.slice none 0 0, by simp [hi], World.ownsRow_nil _ _ _ _⟩
    · cases hx
  · rw [List.getElem?_replicate] at hu
    split at hu
    · injection hu with hu
      subst hu
      cases hk
    · cases hu

theorem heap_other {w : World} {g j k : Nat} {u : Value} (h : k ≠ g) : (w.setCell ⟨g, j, none⟩ u).heap[k]? = w.heap[k]? := heap_setCell_other w ⟨g, j, none⟩ k u (by simp; omega)

/-- A store into the table's own block turns no row of numbers. -/
theorem TabSl.keepRow {w : World} {lo l0 g n cap j : Nat} {rows : List (List Int)} {u v : Value} {y : List Int} (h : TabSl w lo (.slice (some ⟨g, 0, none⟩) n cap) rows) (hv : IntSl w l0 v y) : IntSl (w.setCell ⟨g, j, none⟩ u) l0 v y := by
  obtain ⟨vs, h1, _⟩ := h
  have hs : w.grownBy (w.setCell ⟨g, j, none⟩ u) (some g) := ⟨rfl, rfl, rfl, by simp, fun k _ hk => heap_other (fun e => hk (by rw [e]))⟩
  refine World.ownsRow.kept hv hs ?_
  cases e : v.ownBlock with
  | none => exact .inl rfl
  | some k => exact .inr (fun e' => by
      have e' : some k = some g := e'
      injection e' with e'
      subst e'
      exact ownsRow_apart hv h1 (by decide) e rfl)

theorem LotsAt.far {w : World} {D : Option Addr} {ls : List Lot} {g j : Nat} {u : Value} (h : LotsAt w D ls) (hne : ls = [] ∨ ∀ a, D = some a → a.block ≠ g) : LotsAt (w.setCell ⟨g, j, none⟩ u) D ls := by
  intro i p hp
  replace hne : ∀ a, D = some a → a.block ≠ g := hne.resolve_left (fun e => by rw [e] at hp; simp at hp)
  obtain ⟨b, off, e, hlt, h1, h2⟩ := h i p hp
  have hb := heap_other (w := w) (g := g) (j := j) (u := u) (hne _ e)
  exact ⟨b, off, e, by simpa using hlt, (World.cell?_of_block (a := ⟨b, off + i * 2, none⟩) hb).trans h1, (World.cell?_of_block (a := ⟨b, off + i * 2 + 1, none⟩) hb).trans h2⟩

theorem IntSl.one {w : World} {lo : Nat} {v : Value} {xs : List Int} (h : IntSl w lo v xs) : v.oneCell' = true := by
  obtain ⟨A, c, rfl, _⟩ := h.form
  rfl

theorem fillR_end {rows : List (List Int)} {k : Nat} (h : rows.length ≤ k) : fillR rows k = rows := by
  unfold fillR
  rw [List.take_of_length_le h, show rows.length - k = 0 from by omega]
  simp
end Go.Proofs.YtmepnilnlpoodaaDoor
