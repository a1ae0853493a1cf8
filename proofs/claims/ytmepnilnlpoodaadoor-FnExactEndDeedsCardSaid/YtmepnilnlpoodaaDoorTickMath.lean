/- Tickets and kitchens: what is valid, the least open course, what an event does, what can be fired, the next piece of work; the facts on them that both sides need.
   Conditions: none. -/
import Derived.Test.YtmepnilnlpoodaaDoorTables
import Derived.Test.YtmepnilnlpoodaaDoorOrders
namespace Go.Proofs.YtmepnilnlpoodaaDoor
def orderIn (o : Order) : Bool := inR o.course 0 2 && inR o.state 0 4
def openO (o : Order) : Bool := decide (o.state < 3)
def firedO (o : Order) : Bool := inR o.state 1 3
def readyGo (c : Int) (r : List Order) : Bool := r.all fun o => !(decide (o.course < c) && openO o)
def ticketRow (ls : List Order) (o : Order) : Bool := orderIn o && (!firedO o || readyGo o.course ls)
def ticketOkL (ls : List Order) : Bool := decide (ls.length ≤ 6) && ls.all (ticketRow ls)
def leastStep (a : Int) (o : Order) : Int := if (openO o && (decide (a < 0) || decide (o.course < a))) = true then o.course else a
def leastGo : Int → List Order → Int
  | a, [] => a
  | a, o :: r => leastGo (leastStep a o) r
def leastL (ls : List Order) : Int := leastGo (-1) ls
def lateO (c : Int) (o : Order) : Bool := firedO o && (decide (0 ≤ c) && decide (c < o.course))

theorem orderIn_iff {o : Order} : orderIn o = true ↔ (0 ≤ o.course ∧ o.course ≤ 2) ∧ 0 ≤ o.state ∧ o.state ≤ 4 := by
  unfold orderIn
  rw [Bool.and_eq_true, inR_iff, inR_iff]

theorem leastStep_lt (c a : Int) (o : Order) (ho : 0 ≤ o.course) : (0 ≤ leastStep a o ∧ leastStep a o < c) ↔ ((0 ≤ a ∧ a < c) ∨ (openO o = true ∧ o.course < c)) := by
  unfold leastStep openO
  by_cases h : o.state < 3
  · by_cases h1 : a < 0
    · simp [h, h1]; omega
    · by_cases h2 : o.course < a
      · simp [h, h2]; omega
      · simp [h, h1, h2]; omega
  · simp [h]

theorem leastGo_lt (c : Int) : ∀ (ls : List Order) (a : Int), (∀ o ∈ ls, 0 ≤ o.course) → ((0 ≤ leastGo a ls ∧ leastGo a ls < c) ↔ ((0 ≤ a ∧ a < c) ∨ ∃ o ∈ ls, openO o = true ∧ o.course < c))
  | [], a, _ => by simp [leastGo]
  | o :: r, a, h => by
    rw [leastGo, leastGo_lt c r _ (fun x hx => h x (List.mem_cons_of_mem _ hx)), leastStep_lt c a o (h o (List.mem_cons_self ..))]
    simp [or_assoc]

theorem leastGo_range : ∀ (ls : List Order) (a : Int), (∀ o ∈ ls, orderIn o = true) → -1 ≤ a → a ≤ 2 → -1 ≤ leastGo a ls ∧ leastGo a ls ≤ 2
  | [], a, _, h1, h2 => ⟨h1, h2⟩
  | o :: r, a, h, h1, h2 => by
    have ho := orderIn_iff.1 (h o (List.mem_cons_self ..))
    rw [leastGo]
    refine leastGo_range r _ (fun x hx => h x (List.mem_cons_of_mem _ hx)) ?_ ?_ <;> (unfold leastStep; split <;> omega)

theorem readyGo_least {ls : List Order} (h : ∀ o ∈ ls, 0 ≤ o.course) (c : Int) : readyGo c ls = !(decide (0 ≤ leastL ls) && decide (leastL ls < c)) := by
  have hl := leastGo_lt c ls (-1) h
  unfold leastL
  cases hr : readyGo c ls with
  | true =>
    have : ¬ ∃ o ∈ ls, openO o = true ∧ o.course < c := by
      rintro ⟨o, ho, h1, h2⟩
      unfold readyGo at hr
      have := List.all_eq_true.1 hr o ho
      simp [h1, h2] at this
    have : ¬ (0 ≤ leastGo (-1) ls ∧ leastGo (-1) ls < c) := fun e => (hl.1 e).elim (fun e => by omega) this
    symm
    simp only [Bool.not_eq_true', Bool.and_eq_false_iff, decide_eq_false_iff_not]
    omega
  | false =>
    have : ∃ o ∈ ls, openO o = true ∧ o.course < c := by
      unfold readyGo at hr
      obtain ⟨o, ho, h1⟩ := List.all_eq_false.1 hr
      simp only [Bool.not_eq_true, Bool.not_eq_false', Bool.and_eq_true, decide_eq_true_eq] at h1
      exact ⟨o, ho, h1.2, h1.1⟩
    have := hl.2 (.inr this)
    symm
    simp only [Bool.not_eq_false', Bool.and_eq_true, decide_eq_true_eq]
    exact this

theorem ticketOk_late (ls : List Order) : ticketOkL ls = (decide (ls.length ≤ 6) && (ls.all orderIn && ls.all (fun o => !lateO (leastL ls) o))) := by
  unfold ticketOkL
  congr 1
  cases h : ls.all orderIn with
  | false =>
    obtain ⟨o, ho, h1⟩ := List.all_eq_false.1 h
    rw [Bool.false_and]
    exact List.all_eq_false.2 ⟨o, ho, by unfold ticketRow; simp only [Bool.not_eq_true] at h1; rw [h1]; simp⟩
  | true =>
    rw [Bool.true_and]
    have hin := List.all_eq_true.1 h
    have hc : ∀ o ∈ ls, 0 ≤ o.course := fun o ho => (orderIn_iff.1 (hin o ho)).1.1
    rw [Bool.eq_iff_iff, List.all_eq_true, List.all_eq_true]
    refine forall_congr' fun o => forall_congr' fun ho => ?_
    unfold ticketRow lateO
    rw [hin o ho, readyGo_least hc, Bool.true_and]
    simp only [Bool.not_and]

theorem ticketOk_len {ls : List Order} (h : ticketOkL ls = true) : ls.length ≤ 6 := by
  unfold ticketOkL at h
  rw [Bool.and_eq_true, decide_eq_true_eq] at h
  exact h.1
theorem ticketOk_in {ls : List Order} (h : ticketOkL ls = true) : ∀ o ∈ ls, orderIn o = true := by
  rw [ticketOk_late, Bool.and_eq_true, Bool.and_eq_true, List.all_eq_true, List.all_eq_true] at h
  exact h.2.1

def courseL (ls : List Order) : Int := if ticketOkL ls = true then leastL ls else -1
theorem courseL_range (ls : List Order) : -1 ≤ courseL ls ∧ courseL ls ≤ 2 := by
  unfold courseL
  split
  · rename_i h
    exact leastGo_range ls (-1) (ticketOk_in h) (by omega) (by omega)
  · omega
def doneL (ls : List Order) : Bool := ticketOkL ls && decide (courseL ls < 0)

def nxt (s e : Int) : Int := if e = 0 ∧ s = 0 then 1 else if e = 1 ∧ s = 1 then 2 else if e = 2 ∧ s = 2 then 3 else if e = 3 ∧ s < 3 then 4 else -1
def tbl (e s : Nat) : Int := if nxt s e < 0 then 0 else nxt s e
theorem nxt_out {s e : Int} (h : ¬ (0 ≤ e ∧ e ≤ 3)) : nxt s e = -1 := by
  unfold nxt
  rw [if_neg (by omega), if_neg (by omega), if_neg (by omega), if_neg (by omega)]
theorem nxt_range (s e : Int) : nxt s e = -1 ∨ (1 ≤ nxt s e ∧ nxt s e ≤ 4) := by
  unfold nxt
  split
  · omega
  · split
    · omega
    · split
      · omega
      · split <;> omega
def turned (ls : List Order) (i : Nat) (n : Int) : List Order := ls.set i ⟨(ls.getD i ⟨0, 0⟩).course, n⟩
theorem turned_len (ls : List Order) (i : Nat) (n : Int) : (turned ls i n).length = ls.length := List.length_set ..
def ticketDoL (ls : List Order) (i e : Int) : List Order × Bool :=
  if ticketOkL ls = true then
    if inR i 0 ((ls.length : Int) - 1) = true then
      if nxt (ls.getD i.toNat ⟨0, 0⟩).state e < 0 then (ls, false)
      else if ticketOkL (turned ls i.toNat (nxt (ls.getD i.toNat ⟨0, 0⟩).state e)) = true then (turned ls i.toNat (nxt (ls.getD i.toNat ⟨0, 0⟩).state e), true) else (ls, false)
    else (ls, false)
  else ([], false)
theorem ticketDoL_len (ls : List Order) (i e : Int) : (ticketDoL ls i e).1.length ≤ ls.length := by
  unfold ticketDoL
  split
  · split
    · split
      · exact Nat.le_refl _
      · split
        · exact Nat.le_of_eq (turned_len ..)
        · exact Nat.le_refl _
    · exact Nat.le_refl _
  · simp
theorem ticketDo_bad {ls : List Order} {i e : Int} (h : ticketOkL ls = false) : ticketDoL ls i e = ([], false) := by unfold ticketDoL; rw [h]; rfl
theorem ticketDo_off {ls : List Order} {i e : Int} (h : ticketOkL ls = true) (h2 : inR i 0 ((ls.length : Int) - 1) = false) : ticketDoL ls i e = (ls, false) := by unfold ticketDoL; rw [h, h2]; rfl
theorem ticketDo_no {ls : List Order} {i e : Int} (h : ticketOkL ls = true) (h2 : nxt (ls.getD i.toNat ⟨0, 0⟩).state e < 0) : ticketDoL ls i e = (ls, false) := by
  unfold ticketDoL; rw [if_pos h, if_pos h2]; split <;> rfl
theorem ticketDo_not {ls : List Order} {i e : Int} (h : ticketOkL ls = true) (h3 : ticketOkL (turned ls i.toNat (nxt (ls.getD i.toNat ⟨0, 0⟩).state e)) = false) : ticketDoL ls i e = (ls, false) := by
  unfold ticketDoL; rw [if_pos h, h3]; split
  · split <;> rfl
  · rfl
theorem ticketDo_yes {ls : List Order} {i e : Int} (h : ticketOkL ls = true) (h1 : inR i 0 ((ls.length : Int) - 1) = true) (h2 : ¬ nxt (ls.getD i.toNat ⟨0, 0⟩).state e < 0) (h3 : ticketOkL (turned ls i.toNat (nxt (ls.getD i.toNat ⟨0, 0⟩).state e)) = true) :
    ticketDoL ls i e = (turned ls i.toNat (nxt (ls.getD i.toNat ⟨0, 0⟩).state e), true) := by
  unfold ticketDoL; rw [if_pos h, if_pos h1, if_neg h2, if_pos h3]

def mayOf (ls : List Order) (k : Nat) : Bool := (ticketDoL ls k 0).2
def mayUpto (ls : List Order) (k : Nat) : List Int := ((List.range k).filter (mayOf ls)).map (fun (n : Nat) => (n : Int))
def mayL (ls : List Order) : List Int := mayUpto ls ls.length
theorem mayUpto_len (ls : List Order) (k : Nat) : (mayUpto ls k).length ≤ k := by
  unfold mayUpto
  rw [List.length_map]
  exact Nat.le_trans (List.length_filter_le ..) (by simp)
theorem mayUpto_yes {ls : List Order} {k : Nat} (h : mayOf ls k = true) : mayUpto ls (k + 1) = mayUpto ls k ++ [(k : Int)] := by
  unfold mayUpto
  rw [List.range_succ, List.filter_append, List.map_append]
  simp [h]
theorem mayUpto_no {ls : List Order} {k : Nat} (h : mayOf ls k = false) : mayUpto ls (k + 1) = mayUpto ls k := by
  unfold mayUpto
  rw [List.range_succ, List.filter_append, List.map_append]
  simp [h]
theorem mayOf_lt {ls : List Order} {k : Nat} (h : mayOf ls k = true) : ticketOkL ls = true ∧ k < ls.length ∧ (ls.getD k ⟨0, 0⟩).state = 0 := by
  unfold mayOf ticketDoL at h
  split at h
  · rename_i h0
    split at h
    · rename_i h1
      split at h
      · cases h
      · rename_i h2
        have := inR_iff.1 h1
        refine ⟨h0, by omega, ?_⟩
        simp only [Int.toNat_natCast] at h2
        unfold nxt at h2
        split at h2
        · rename_i h; exact h.2
        · rw [if_neg (by omega), if_neg (by omega), if_neg (by omega)] at h2
          omega
    · cases h
  · cases h
theorem mayUpto_mem {ls : List Order} {k : Nat} {i : Int} (h : i ∈ mayUpto ls k) : ∃ n : Nat, i = n ∧ n < k ∧ mayOf ls n = true := by
  unfold mayUpto at h
  obtain ⟨n, hn, rfl⟩ := List.mem_map.1 h
  obtain ⟨h1, h2⟩ := List.mem_filter.1 hn
  exact ⟨n, rfl, List.mem_range.1 h1, h2⟩
def kitchenOkL (l : List (List Order)) : Bool := decide (l.length ≤ 4) && l.all ticketOkL
theorem kitchenOk_len {l : List (List Order)} (h : kitchenOkL l = true) : l.length ≤ 4 := by
  unfold kitchenOkL at h
  rw [Bool.and_eq_true, decide_eq_true_eq] at h
  exact h.1
theorem kitchenOk_at {l : List (List Order)} (h : kitchenOkL l = true) {t : List Order} (ht : t ∈ l) : ticketOkL t = true := by
  unfold kitchenOkL at h
  rw [Bool.and_eq_true, List.all_eq_true] at h
  exact h.2 t ht

def nextGo : Nat → List (List Order) → Int × Int
  | _, [] => (-1, -1)
  | k, t :: r => match mayL t with
    | [] => nextGo (k + 1) r
    | i :: _ => ((k : Int), i)
def nextFireL (l : List (List Order)) : Int × Int := if kitchenOkL l = true then nextGo 0 l else (-1, -1)
theorem nextGo_nil {k : Nat} {t : List Order} {r : List (List Order)} (h : mayL t = []) : nextGo k (t :: r) = nextGo (k + 1) r := by rw [nextGo, h]
theorem nextGo_cons {k : Nat} {t : List Order} {r : List (List Order)} {i : Int} {m : List Int} (h : mayL t = i :: m) : nextGo k (t :: r) = ((k : Int), i) := by rw [nextGo, h]
theorem nextGo_spec : ∀ (l : List (List Order)) (k : Nat), nextGo k l = (-1, -1) ∨ ∃ a i : Nat, nextGo k l = (((k + a : Nat) : Int), (i : Int)) ∧ a < l.length ∧ mayOf (l.getD a []) i = true
  | [], _ => .inl rfl
  | t :: r, k => by
    cases h : mayL t with
    | nil =>
      rw [nextGo_nil h]
      rcases nextGo_spec r (k + 1) with e | ⟨a, i, e, ha, hm⟩
      · exact .inl e
      · refine .inr ⟨a + 1, i, by rw [e, show k + 1 + a = k + (a + 1) from by omega], by simpa using ha, by simpa using hm⟩
    | cons i m =>
      rw [nextGo_cons h]
      obtain ⟨n, rfl, _, hn⟩ := mayUpto_mem (ls := t) (k := t.length) (i := i) (by
        have : i ∈ mayL t := by rw [h]; exact List.mem_cons_self ..
        exact this)
      exact .inr ⟨0, n, by simp, by simp, by simpa using hn⟩

def left1 (o : Order) : Int := if o.state < 3 then 3 - o.state else 0
def leftT : List Order → Int
  | [] => 0
  | o :: r => left1 o + leftT r
def leftK : List (List Order) → Int
  | [] => 0
  | t :: r => leftT t + leftK r
def workLeftL (l : List (List Order)) : Int := if kitchenOkL l = true then leftK l else -1
theorem leftT_range : ∀ (t : List Order), (∀ o ∈ t, orderIn o = true) → 0 ≤ leftT t ∧ leftT t ≤ 3 * t.length
  | [], _ => by simp [leftT]
  | o :: r, h => by
    have ho := orderIn_iff.1 (h o (List.mem_cons_self ..))
    have := leftT_range r (fun x hx => h x (List.mem_cons_of_mem _ hx))
    have e : left1 o = if o.state < 3 then 3 - o.state else 0 := rfl
    rw [leftT, List.length_cons, e]
    split <;> omega
theorem leftK_range : ∀ (l : List (List Order)), (∀ t ∈ l, ticketOkL t = true) → 0 ≤ leftK l ∧ leftK l ≤ 18 * l.length
  | [], _ => by simp [leftK]
  | t :: r, h => by
    have ht := h t (List.mem_cons_self ..)
    have := leftT_range t (ticketOk_in ht)
    have := ticketOk_len ht
    have := leftK_range r (fun x hx => h x (List.mem_cons_of_mem _ hx))
    rw [leftK, List.length_cons]
    omega

def stateAt (st : Int) (t : List Order) (j : Nat) : Bool := decide ((t.getD j ⟨0, 0⟩).state = st)
/-- The first place in a ticket, from k on, whose order is in the state. -/
def firstGo (st : Int) : Nat → List Order → Option Nat
  | _, [] => none
  | k, o :: r => if o.state = st then some k else firstGo st (k + 1) r
def firstK (st : Int) : Nat → List (List Order) → Option (Nat × Nat)
  | _, [] => none
  | k, t :: r => match firstGo st 0 t with
    | some j => some (k, j)
    | none => firstK st (k + 1) r
theorem firstGo_some {st : Int} : ∀ {t : List Order} {k j : Nat}, firstGo st k t = some j → k ≤ j ∧ j - k < t.length ∧ (t.getD (j - k) ⟨0, 0⟩).state = st
  | [], _, _, h => by cases h
  | o :: r, k, j, h => by
    rw [firstGo] at h
    split at h
    · rename_i ho
      obtain rfl : k = j := by simpa using h
      simpa using ho
    · obtain ⟨h1, h2, h3⟩ := firstGo_some h
      refine ⟨by omega, by rw [List.length_cons]; omega, ?_⟩
      rw [show j - k = j - (k + 1) + 1 from by omega]
      simpa using h3
theorem firstK_some {st : Int} : ∀ {l : List (List Order)} {k a j : Nat}, firstK st k l = some (a, j) → k ≤ a ∧ a - k < l.length ∧ j < (l.getD (a - k) []).length ∧ ((l.getD (a - k) []).getD j ⟨0, 0⟩).state = st
  | [], _, _, _, h => by cases h
  | t :: r, k, a, j, h => by
    rw [firstK] at h
    split at h
    · rename_i j' hj
      obtain ⟨rfl, rfl⟩ : k = a ∧ j' = j := by simpa using h
      obtain ⟨_, h2, h3⟩ := firstGo_some hj
      rw [Nat.sub_zero] at h2 h3
      rw [Nat.sub_self]
      exact ⟨Nat.le_refl _, by simp, by simpa using h2, by simpa using h3⟩
    · obtain ⟨h1, h2, h3, h4⟩ := firstK_some h
      rw [show a - k = a - (k + 1) + 1 from by omega]
      exact ⟨by omega, by rw [List.length_cons]; omega, by simpa using h3, by simpa using h4⟩

def putK (l : List (List Order)) (a j : Nat) (n : Int) : List (List Order) := l.set a (turned (l.getD a []) j n)
def workStepL (l : List (List Order)) : List (List Order) × Bool :=
  if kitchenOkL l = true then
    match firstK 2 0 l with
    | some (a, j) => (putK l a j 3, true)
    | none => match firstK 1 0 l with
      | some (a, j) => (putK l a j 2, true)
      | none => if (nextGo 0 l).1 < 0 then (l, false) else (putK l (nextGo 0 l).1.toNat (nextGo 0 l).2.toNat 1, true)
  else ([], false)
theorem putK_len (l : List (List Order)) (a j : Nat) (n : Int) : (putK l a j n).length = l.length := List.length_set ..

/-- A turn from n - 1 to n, for a served or cooked dish, keeps a ticket valid. -/
theorem turned_ok {ls : List Order} {j : Nat} {n : Int} (h : ticketOkL ls = true) (hj : j < ls.length) (hs : (ls.getD j ⟨0, 0⟩).state = n - 1) (hn : n = 2 ∨ n = 3) : ticketOkL (turned ls j n) = true := by
  have hlen := ticketOk_len h
  have hin := ticketOk_in h
  unfold ticketOkL at h ⊢
  rw [Bool.and_eq_true, List.all_eq_true] at h ⊢
  have hoj : ls.getD j ⟨0, 0⟩ ∈ ls := by
    rw [List.getD_eq_getElem?_getD, List.getElem?_eq_getElem hj]
    exact List.getElem_mem hj
  refine ⟨by rw [turned_len]; simpa using hlen, fun o ho => ?_⟩
  have hready : ∀ c, readyGo c ls = true → readyGo c (turned ls j n) = true := by
    intro c hc
    unfold readyGo at hc ⊢
    rw [List.all_eq_true] at hc ⊢
    intro x hx
    rcases List.mem_or_eq_of_mem_set hx with e | rfl
    · exact hc x e
    · have := hc _ hoj
      unfold openO at this ⊢
      simp only [Bool.not_and, Bool.or_eq_true, Bool.not_eq_true', decide_eq_false_iff_not] at this ⊢
      rcases this with e | e
      · exact .inl e
      · right; omega
  rcases List.mem_or_eq_of_mem_set ho with e | rfl
  · have := h.2 o e
    unfold ticketRow at this ⊢
    rw [Bool.and_eq_true, Bool.or_eq_true] at this ⊢
    exact ⟨this.1, this.2.imp id (hready _)⟩
  · have := h.2 _ hoj
    have hi := orderIn_iff.1 (hin _ hoj)
    unfold ticketRow at this ⊢
    rw [Bool.and_eq_true, Bool.or_eq_true] at this ⊢
    refine ⟨orderIn_iff.2 ⟨hi.1, by simp only; omega, by simp only; omega⟩, .inr (hready _ ?_)⟩
    rcases this.2 with e | e
    · unfold firedO at e
      have : inR (ls.getD j ⟨0, 0⟩).state 1 3 = true := inR_iff.2 (by omega)
      rw [this] at e
      cases e
    · exact e
/-- Serving and cooking: exactly where the dish is in the state before. -/
theorem do_state {ls : List Order} (h : ticketOkL ls = true) {j : Nat} (hj : j < ls.length) {e : Int} (he : e = 1 ∨ e = 2) :
    ticketDoL ls j e = if (ls.getD j ⟨0, 0⟩).state = e then (turned ls j (e + 1), true) else (ls, false) := by
  have hin : inR (j : Int) 0 ((ls.length : Int) - 1) = true := inR_iff.2 (by omega)
  by_cases hs : (ls.getD j ⟨0, 0⟩).state = e
  · have hx : nxt (ls.getD j ⟨0, 0⟩).state e = e + 1 := by
      rw [hs]; rcases he with rfl | rfl <;> rfl
    rw [if_pos hs, ticketDo_yes h hin (by rw [Int.toNat_natCast, hx]; omega) (by rw [Int.toNat_natCast, hx]; exact turned_ok h hj (by omega) (by omega)), Int.toNat_natCast, hx]
  · have hx : nxt (ls.getD j ⟨0, 0⟩).state e = -1 := by
      unfold nxt
      rw [if_neg (by omega), if_neg (by omega), if_neg (by omega), if_neg (by omega)]
    rw [if_neg hs, ticketDo_no h (by rw [Int.toNat_natCast, hx]; omega)]
/-- Firing what may be fired. -/
theorem do_fire {ls : List Order} {j : Nat} (h : mayOf ls j = true) : ticketDoL ls j 0 = (turned ls j 1, true) ∧ (ls.getD j ⟨0, 0⟩).state = 0 ∧ ticketOkL (turned ls j 1) = true := by
  obtain ⟨h0, h1, h2⟩ := mayOf_lt h
  have hin : inR (j : Int) 0 ((ls.length : Int) - 1) = true := inR_iff.2 (by omega)
  have hx : nxt (ls.getD j ⟨0, 0⟩).state 0 = 1 := by rw [h2]; rfl
  have h3 : ticketOkL (turned ls j 1) = true := by
    cases e : ticketOkL (turned ls j 1) with
    | true => rfl
    | false =>
      unfold mayOf at h
      rw [ticketDo_not h0 (by rw [Int.toNat_natCast, hx]; exact e)] at h
      cases h
  refine ⟨?_, h2, h3⟩
  rw [ticketDo_yes h0 hin (by rw [Int.toNat_natCast, hx]; omega) (by rw [Int.toNat_natCast, hx]; exact h3), Int.toNat_natCast, hx]

theorem kitchenOk_put {l : List (List Order)} (h : kitchenOkL l = true) {a j : Nat} {n : Int} (ht : ticketOkL (turned (l.getD a []) j n) = true) : kitchenOkL (putK l a j n) = true := by
  unfold kitchenOkL at h ⊢
  rw [Bool.and_eq_true, List.all_eq_true] at h ⊢
  refine ⟨by rw [putK_len]; exact h.1, fun t hm => ?_⟩
  rcases List.mem_or_eq_of_mem_set hm with e | rfl
  · exact h.2 t e
  · exact ht
theorem workStep_ok {l : List (List Order)} (h : kitchenOkL l = true) : kitchenOkL (workStepL l).1 = true := by
  unfold workStepL
  rw [if_pos h]
  have hmem : ∀ {a : Nat}, a < l.length → l.getD a [] ∈ l := fun {a} ha => by
    rw [List.getD_eq_getElem?_getD, List.getElem?_eq_getElem ha]
    exact List.getElem_mem ha
  split
  · rename_i a j e
    obtain ⟨_, h2, h3, h4⟩ := firstK_some e
    rw [Nat.sub_zero] at h2 h3 h4
    exact kitchenOk_put h (turned_ok (kitchenOk_at h (hmem h2)) h3 (by omega) (by omega))
  · split
    · rename_i a j e
      obtain ⟨_, h2, h3, h4⟩ := firstK_some e
      rw [Nat.sub_zero] at h2 h3 h4
      exact kitchenOk_put h (turned_ok (kitchenOk_at h (hmem h2)) h3 (by omega) (by omega))
    · rcases nextGo_spec l 0 with e | ⟨a, i, e, ha, hm⟩
      · rw [e]; exact h
      · rw [e]
        simp only [Int.toNat_natCast, Nat.zero_add]
        rw [if_neg (by omega)]
        exact kitchenOk_put h (do_fire hm).2.2
end Go.Proofs.YtmepnilnlpoodaaDoor
