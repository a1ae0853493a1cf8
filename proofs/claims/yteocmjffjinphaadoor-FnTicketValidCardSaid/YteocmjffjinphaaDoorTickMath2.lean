/- More facts on tickets and kitchens, as the promises say them: courses, what can be fired, work and what is left of it, events.
   Conditions: none. -/
import Derived.Test.YteocmjffjinphaaDoorTickMath
namespace Go.Proofs.YteocmjffjinphaaDoor
theorem leastStep_mem (a : Int) (o : Order) : leastStep a o = a ∨ (leastStep a o = o.course ∧ openO o = true) := by
  unfold leastStep
  split
  · rename_i h
    rw [Bool.and_eq_true] at h
    exact .inr ⟨rfl, h.1⟩
  · exact .inl rfl
theorem leastGo_mem : ∀ (ls : List Order) (a : Int), leastGo a ls = a ∨ ∃ o ∈ ls, openO o = true ∧ o.course = leastGo a ls
  | [], a => .inl rfl
  | o :: r, a => by
    rw [leastGo]
    rcases leastGo_mem r (leastStep a o) with e | ⟨x, hx, h1, h2⟩
    · rcases leastStep_mem a o with e2 | ⟨e2, h⟩
      · exact .inl (e.trans e2)
      · exact .inr ⟨o, List.mem_cons_self .., h, by rw [e, e2]⟩
    · exact .inr ⟨x, List.mem_cons_of_mem _ hx, h1, h2⟩
theorem courseL_pos {ls : List Order} (h : 0 ≤ courseL ls) : ticketOkL ls = true ∧ courseL ls = leastL ls := by
  unfold courseL at h ⊢
  split at h
  · rename_i h0
    exact ⟨h0, if_pos h0⟩
  · omega
theorem least_open {ls : List Order} (h : ticketOkL ls = true) {o : Order} (ho : o ∈ ls) (hop : openO o = true) : 0 ≤ leastL ls ∧ leastL ls ≤ o.course := by
  have hin := ticketOk_in h
  have hc : ∀ o ∈ ls, 0 ≤ o.course := fun o ho => (orderIn_iff.1 (hin o ho)).1.1
  have h1 := (leastGo_lt (o.course + 1) ls (-1) hc).2 (.inr ⟨o, ho, hop, by omega⟩)
  unfold leastL
  omega
theorem least_some {ls : List Order} (h : 0 ≤ leastL ls) : ∃ o ∈ ls, openO o = true ∧ o.course = leastL ls := by
  rcases leastGo_mem ls (-1) with e | e
  · unfold leastL at h; omega
  · exact e
theorem least_late {ls : List Order} (h : ticketOkL ls = true) (h0 : 0 ≤ leastL ls) {o : Order} (ho : o ∈ ls) (hf : firedO o = true) : o.course ≤ leastL ls := by
  rw [ticketOk_late, Bool.and_eq_true, Bool.and_eq_true, List.all_eq_true, List.all_eq_true] at h
  have := h.2.2 o ho
  unfold lateO at this
  rw [hf, decide_eq_true h0] at this
  simp at this
  exact this
theorem courseL_done {ls : List Order} (h : courseL ls < 0) : courseL ls = -1 ∧ doneL ls = ticketOkL ls := by
  have := courseL_range ls
  refine ⟨by omega, ?_⟩
  unfold doneL
  rw [decide_eq_true h, Bool.and_true]
theorem doneL_iff {ls : List Order} (h : ticketOkL ls = true) : doneL ls = true ↔ ∀ o ∈ ls, openO o = false := by
  unfold doneL courseL
  rw [if_pos h, h, Bool.true_and, decide_eq_true_eq]
  constructor
  · intro hl o ho
    cases hop : openO o with
    | false => rfl
    | true => have := least_open h ho hop; omega
  · intro hall
    by_cases h0 : 0 ≤ leastL ls
    · obtain ⟨o, ho, hop, _⟩ := least_some h0
      rw [hall o ho] at hop
      cases hop
    · omega

theorem getD_mem {ls : List Order} {k : Nat} (h : k < ls.length) : ls.getD k ⟨0, 0⟩ ∈ ls := by
  rw [List.getD_eq_getElem?_getD, List.getElem?_eq_getElem h]
  exact List.getElem_mem h
theorem turned_at {ls : List Order} {i : Nat} {n : Int} (k : Nat) (hk : k < ls.length) : (turned ls i n).getD k ⟨0, 0⟩ = if k = i then ⟨(ls.getD k ⟨0, 0⟩).course, n⟩ else ls.getD k ⟨0, 0⟩ := by
  unfold turned
  rw [List.getD_eq_getElem?_getD]
  by_cases e : k = i
  · subst e
    rw [List.getElem?_set_self hk, if_pos rfl]
    rfl
  · rw [List.getElem?_set_ne (fun h => e h.symm), if_neg e, List.getD_eq_getElem?_getD]
theorem turned_mem {ls : List Order} {i : Nat} {n : Int} {o : Order} (h : o ∈ turned ls i n) : o ∈ ls ∨ o = ⟨(ls.getD i ⟨0, 0⟩).course, n⟩ := List.mem_or_eq_of_mem_set h
theorem turned_has {ls : List Order} {i : Nat} {n : Int} (hi : i < ls.length) : (⟨(ls.getD i ⟨0, 0⟩).course, n⟩ : Order) ∈ turned ls i n := List.mem_set hi _

/-- Readiness does not see a turn that leaves a dish open. -/
theorem ready_turned {ls : List Order} {i : Nat} {n : Int} (hi : i < ls.length) (ho : openO (ls.getD i ⟨0, 0⟩) = decide (n < 3)) (c : Int) : readyGo c (turned ls i n) = readyGo c ls := by
  have key : ∀ x y : Order, x.course = y.course → openO x = openO y → (!(decide (x.course < c) && openO x)) = (!(decide (y.course < c) && openO y)) := fun x y h1 h2 => by rw [h1, h2]
  unfold readyGo turned
  rw [Bool.eq_iff_iff, List.all_eq_true, List.all_eq_true]
  constructor
  · intro h x hx
    obtain ⟨j, hj, rfl⟩ := List.getElem_of_mem hx
    by_cases e : j = i
    · subst e
      have h1 := h _ (List.mem_set hi _)
      rw [← h1]
      have hg : ls.getD j ⟨0, 0⟩ = ls[j] := by rw [List.getD_eq_getElem?_getD, List.getElem?_eq_getElem hj]; rfl
      refine key _ _ (by rw [hg]) ?_
      rw [← hg, ho]
      rfl
    · refine h _ ?_
      have : (ls.set i ⟨(ls.getD i ⟨0, 0⟩).course, n⟩)[j]? = some ls[j] := by rw [List.getElem?_set_ne (fun h => e h.symm), List.getElem?_eq_getElem hj]
      exact List.mem_of_getElem? this
  · intro h x hx
    rcases List.mem_or_eq_of_mem_set hx with e | rfl
    · exact h x e
    · have h1 := h _ (getD_mem hi)
      rw [← h1]
      exact key _ _ rfl ho.symm

/-- What may be fired: the dishes of the least open course that were only ordered. -/
theorem mayOf_iff {ls : List Order} (h : ticketOkL ls = true) {k : Nat} (hk : k < ls.length) : mayOf ls k = true ↔ ((ls.getD k ⟨0, 0⟩).course = courseL ls ∧ (ls.getD k ⟨0, 0⟩).state = 0) := by
  have hin := ticketOk_in h
  have hc : ∀ o ∈ ls, 0 ≤ o.course := fun o ho => (orderIn_iff.1 (hin o ho)).1.1
  have hm := getD_mem hk
  have hi := orderIn_iff.1 (hin _ hm)
  have hcl : courseL ls = leastL ls := by unfold courseL; rw [if_pos h]
  have hino : inR (k : Int) 0 ((ls.length : Int) - 1) = true := inR_iff.2 (by omega)
  rw [hcl]
  constructor
  · intro hmay
    obtain ⟨_, _, hs⟩ := mayOf_lt hmay
    have hop : openO (ls.getD k ⟨0, 0⟩) = true := decide_eq_true (by omega)
    have hle := least_open h hm hop
    have hok := (do_fire hmay).2.2
    have hrow : ticketRow (turned ls k 1) ⟨(ls.getD k ⟨0, 0⟩).course, 1⟩ = true := by
      unfold ticketOkL at hok
      rw [Bool.and_eq_true, List.all_eq_true] at hok
      exact hok.2 _ (turned_has hk)
    unfold ticketRow firedO at hrow
    rw [Bool.and_eq_true, Bool.or_eq_true] at hrow
    have hr : readyGo (ls.getD k ⟨0, 0⟩).course (turned ls k 1) = true := by
      rcases hrow.2 with e | e
      · have : inR (1 : Int) 1 3 = true := by decide
        simp [this] at e
      · exact e
    rw [ready_turned hk (by rw [hop]; rfl), readyGo_least hc] at hr
    simp only [Bool.not_and, Bool.or_eq_true, Bool.not_eq_true', decide_eq_false_iff_not] at hr
    exact ⟨by omega, hs⟩
  · rintro ⟨h1, h2⟩
    have hop : openO (ls.getD k ⟨0, 0⟩) = true := decide_eq_true (by omega)
    have hle := least_open h hm hop
    have hx : nxt (ls.getD (k : Int).toNat ⟨0, 0⟩).state 0 = 1 := by rw [Int.toNat_natCast, h2]; rfl
    have hok : ticketOkL (turned ls k 1) = true := by
      have h' := h
      unfold ticketOkL at h' ⊢
      rw [Bool.and_eq_true, List.all_eq_true] at h' ⊢
      refine ⟨by rw [turned_len]; exact h'.1, fun o ho => ?_⟩
      rcases turned_mem ho with e | rfl
      · have := h'.2 o e
        unfold ticketRow at this ⊢
        rw [ready_turned hk (by rw [hop]; rfl)]
        exact this
      · unfold ticketRow
        rw [ready_turned hk (by rw [hop]; rfl), readyGo_least hc]
        have : orderIn ⟨(ls.getD k ⟨0, 0⟩).course, 1⟩ = true := orderIn_iff.2 ⟨hi.1, by simp only; omega⟩
        rw [this]
        simp only [Bool.true_and, Bool.or_eq_true]
        right
        simp only [Bool.not_and, Bool.or_eq_true, Bool.not_eq_true', decide_eq_false_iff_not]
        right
        omega
    unfold mayOf
    rw [ticketDo_yes h hino (by rw [hx]; omega) (by rw [hx, Int.toNat_natCast]; exact hok)]

/-- Which tickets have something to be fired. -/
theorem mayL_nil {ls : List Order} : mayL ls = [] ↔ ∀ k, k < ls.length → mayOf ls k = false := by
  unfold mayL mayUpto
  rw [List.map_eq_nil_iff, List.filter_eq_nil_iff]
  simp

/-- There is nothing to do exactly if all tickets are done. -/
theorem firstGo_none {st : Int} : ∀ {t : List Order} {k : Nat}, firstGo st k t = none ↔ ∀ o ∈ t, o.state ≠ st
  | [], k => by simp [firstGo]
  | o :: r, k => by
    rw [firstGo]
    by_cases h : o.state = st
    · simp [h]
    · rw [if_neg h, firstGo_none]
      simp [h]
theorem firstK_none {st : Int} : ∀ {l : List (List Order)} {k : Nat}, firstK st k l = none ↔ ∀ t ∈ l, ∀ o ∈ t, o.state ≠ st
  | [], k => by simp [firstK]
  | t :: r, k => by
    rw [firstK]
    cases h : firstGo st 0 t with
    | some j =>
      simp only [reduceCtorEq, false_iff]
      intro hall
      have : firstGo st 0 t = none := firstGo_none.2 (hall t (List.mem_cons_self ..))
      rw [h] at this
      cases this
    | none =>
      simp only
      rw [firstK_none]
      have := firstGo_none.1 h
      constructor
      · intro ha t' ht'
        rcases List.mem_cons.1 ht' with rfl | e
        · exact this
        · exact ha t' e
      · intro ha t' ht'
        exact ha t' (List.mem_cons_of_mem _ ht')
theorem nextGo_none : ∀ {l : List (List Order)} {k : Nat}, (nextGo k l).1 < 0 ↔ ∀ t ∈ l, mayL t = []
  | [], k => by simp [nextGo]
  | t :: r, k => by
    cases h : mayL t with
    | nil =>
      rw [nextGo_nil h, nextGo_none]
      constructor
      · intro ha t' ht'
        rcases List.mem_cons.1 ht' with rfl | e
        · exact h
        · exact ha t' e
      · intro ha t' ht'
        exact ha t' (List.mem_cons_of_mem _ ht')
    | cons i m =>
      rw [nextGo_cons h]
      constructor
      · intro hh; simp only at hh; omega
      · intro ha
        have := ha t (List.mem_cons_self ..)
        rw [h] at this
        cases this
def allDone (l : List (List Order)) : Bool := l.all doneL
theorem workStep_done {l : List (List Order)} (h : kitchenOkL l = true) : (workStepL l).2 = !allDone l := by
  have hok := fun t ht => kitchenOk_at h (t := t) ht
  cases hd : allDone l with
  | true =>
    have hall : ∀ t ∈ l, ∀ o ∈ t, openO o = false := fun t ht => (doneL_iff (hok t ht)).1 (List.all_eq_true.1 hd t ht)
    have hst : ∀ st : Int, st < 3 → ∀ t ∈ l, ∀ o ∈ t, o.state ≠ st := fun st hst t ht o ho e => by
      have := hall t ht o ho
      unfold openO at this
      rw [decide_eq_false_iff_not] at this
      omega
    have hm : (nextGo 0 l).1 < 0 := nextGo_none.2 (fun t ht => mayL_nil.2 (fun k hk => by
      cases hm : mayOf t k with
      | false => rfl
      | true =>
        have := (mayOf_lt hm).2.2
        exact absurd this (hst 0 (by omega) t ht _ (getD_mem hk))))
    unfold workStepL
    rw [if_pos h, firstK_none.2 (hst 2 (by omega)), firstK_none.2 (hst 1 (by omega))]
    simp only
    rw [if_pos hm]
    rfl
  | false =>
    obtain ⟨t, ht, hnd⟩ := List.all_eq_false.1 hd
    have htok := hok t ht
    have hopen : ∃ o ∈ t, openO o = true := by
      apply Classical.byContradiction
      intro hne
      apply hnd
      rw [doneL_iff htok]
      intro o ho
      cases hop : openO o with
      | false => rfl
      | true => exact absurd ⟨o, ho, hop⟩ hne
    obtain ⟨o0, ho0, hop0⟩ := hopen
    have hl0 := least_open htok ho0 hop0
    obtain ⟨o, ho, hop, hoc⟩ := least_some hl0.1
    have hos := (orderIn_iff.1 (ticketOk_in htok o ho)).2
    unfold openO at hop
    rw [decide_eq_true_eq] at hop
    unfold workStepL
    rw [if_pos h]
    cases h2 : firstK 2 0 l with
    | some q => rfl
    | none =>
      cases h1 : firstK 1 0 l with
      | some q => rfl
      | none =>
        have n2 := firstK_none.1 h2 t ht o ho
        have n1 := firstK_none.1 h1 t ht o ho
        have hs0 : o.state = 0 := by omega
        have hm : ¬ (nextGo 0 l).1 < 0 := fun e => by
          have := nextGo_none.1 e t ht
          obtain ⟨k, hk, rfl⟩ := List.getElem_of_mem ho
          have hg : t.getD k ⟨0, 0⟩ = t[k] := by rw [List.getD_eq_getElem?_getD, List.getElem?_eq_getElem hk]; rfl
          have hmay : mayOf t k = true := (mayOf_iff htok hk).2 ⟨by rw [hg, hoc]; unfold courseL; rw [if_pos htok], by rw [hg]; exact hs0⟩
          rw [mayL_nil.1 this k hk] at hmay
          cases hmay
        simp only
        rw [if_neg hm]
        rfl

theorem leftT_turned : ∀ (ls : List Order) (i : Nat) (n : Int), i < ls.length → leftT (turned ls i n) = leftT ls - left1 (ls.getD i ⟨0, 0⟩) + left1 ⟨(ls.getD i ⟨0, 0⟩).course, n⟩
  | [], i, n, h => by simp at h
  | o :: r, 0, n, _ => by simp only [turned, List.getD_cons_zero, List.set_cons_zero, leftT]; omega
  | o :: r, i + 1, n, h => by
    have ih := leftT_turned r i n (by simpa using h)
    have e : turned (o :: r) (i + 1) n = o :: turned r i n := by simp [turned]
    rw [e, leftT, ih, leftT, List.getD_cons_succ]
    omega
theorem leftK_set : ∀ (l : List (List Order)) (a : Nat) (y : List Order), a < l.length → leftK (l.set a y) = leftK l - leftT (l.getD a []) + leftT y
  | [], a, y, h => by simp at h
  | t :: r, 0, y, _ => by simp only [List.getD_cons_zero, List.set_cons_zero, leftK]; omega
  | t :: r, a + 1, y, h => by
    have ih := leftK_set r a y (by simpa using h)
    rw [List.set_cons_succ, leftK, ih, leftK, List.getD_cons_succ]
    omega
theorem leftK_put {l : List (List Order)} {a j : Nat} {n : Int} (ha : a < l.length) (hj : j < (l.getD a []).length) (hs : ((l.getD a []).getD j ⟨0, 0⟩).state = n - 1) (hn : n ≤ 3) : leftK (putK l a j n) = leftK l - 1 := by
  unfold putK
  rw [leftK_set l a _ ha, leftT_turned _ j n hj]
  have e1 : left1 ((l.getD a []).getD j ⟨0, 0⟩) = 3 - (n - 1) := by
    unfold left1
    rw [hs, if_pos (by omega)]
  have e2 : left1 ⟨((l.getD a []).getD j ⟨0, 0⟩).course, n⟩ = 3 - n := by
    unfold left1
    simp only
    split <;> omega
  rw [e1, e2]
  omega
/-- The place of the next piece of work. -/
theorem workStep_place {l : List (List Order)} (h : kitchenOkL l = true) (hs : (workStepL l).2 = true) :
    ∃ (a j : Nat) (n : Int), a < l.length ∧ j < (l.getD a []).length ∧ ((l.getD a []).getD j ⟨0, 0⟩).state = n - 1 ∧ 1 ≤ n ∧ n ≤ 3 ∧ (workStepL l).1 = putK l a j n := by
  revert hs
  unfold workStepL
  rw [if_pos h]
  cases h2 : firstK 2 0 l with
  | some q =>
    obtain ⟨a, j⟩ := q
    obtain ⟨_, g2, g3, g4⟩ := firstK_some h2
    rw [Nat.sub_zero] at g2 g3 g4
    exact fun _ => ⟨a, j, 3, g2, g3, by omega, by omega, by omega, rfl⟩
  | none =>
    cases h1 : firstK 1 0 l with
    | some q =>
      obtain ⟨a, j⟩ := q
      obtain ⟨_, g2, g3, g4⟩ := firstK_some h1
      rw [Nat.sub_zero] at g2 g3 g4
      exact fun _ => ⟨a, j, 2, g2, g3, by omega, by omega, by omega, rfl⟩
    | none =>
      rcases nextGo_spec l 0 with e | ⟨a, i, e, ha, hm⟩
      · rw [e]; intro hh; exact Bool.noConfusion (show false = true from hh)
      · obtain ⟨_, g2, g3⟩ := mayOf_lt hm
        rw [e]
        simp only [Int.toNat_natCast, Nat.zero_add]
        rw [if_neg (by omega)]
        exact fun _ => ⟨a, i, 1, ha, g2, by omega, by omega, by omega, rfl⟩
theorem workStep_left {l : List (List Order)} (h : kitchenOkL l = true) (hs : (workStepL l).2 = true) : leftK (workStepL l).1 = leftK l - 1 := by
  obtain ⟨a, j, n, h1, h2, h3, _, h5, e⟩ := workStep_place h hs
  rw [e]
  exact leftK_put h1 h2 h3 h5
theorem workStep_stays {l : List (List Order)} (h : kitchenOkL l = true) (hs : (workStepL l).2 = false) : (workStepL l).1 = l := by
  revert hs
  unfold workStepL
  rw [if_pos h]
  cases h2 : firstK 2 0 l with
  | some q => exact fun hh => Bool.noConfusion (show true = false from hh)
  | none =>
    cases h1 : firstK 1 0 l with
    | some q => exact fun hh => Bool.noConfusion (show true = false from hh)
    | none =>
      simp only
      split
      · exact fun _ => rfl
      · exact fun hh => Bool.noConfusion (show true = false from hh)
theorem leftT_zero : ∀ {t : List Order}, (∀ o ∈ t, orderIn o = true) → (leftT t = 0 ↔ ∀ o ∈ t, openO o = false)
  | [], _ => by simp [leftT]
  | o :: r, h => by
    have ho := (orderIn_iff.1 (h o (List.mem_cons_self ..))).2
    have hr := fun x hx => h x (List.mem_cons_of_mem _ hx)
    have ih := leftT_zero hr
    have h1 := leftT_range r hr
    have e1 : left1 o = if o.state < 3 then 3 - o.state else 0 := rfl
    rw [leftT]
    constructor
    · intro e
      have hl : leftT r = 0 := by split at e1 <;> omega
      have hs : ¬ o.state < 3 := fun hs => by rw [if_pos hs] at e1; omega
      intro x hx
      rcases List.mem_cons.1 hx with rfl | hx
      · exact decide_eq_false hs
      · exact ih.1 hl x hx
    · intro ha
      have hs : ¬ o.state < 3 := by
        have := ha o (List.mem_cons_self ..)
        unfold openO at this
        exact decide_eq_false_iff_not.1 this
      rw [ih.2 (fun x hx => ha x (List.mem_cons_of_mem _ hx)), e1, if_neg hs]
      rfl
theorem leftT_done {t : List Order} (h : ticketOkL t = true) : (leftT t = 0 ↔ doneL t = true) := by rw [leftT_zero (ticketOk_in h), doneL_iff h]
theorem leftK_done : ∀ {l : List (List Order)}, (∀ t ∈ l, ticketOkL t = true) → (leftK l = 0 ↔ allDone l = true)
  | [], _ => by simp [leftK, allDone]
  | t :: r, h => by
    have ht := h t (List.mem_cons_self ..)
    have hr := fun x hx => h x (List.mem_cons_of_mem _ hx)
    have ih := leftK_done hr
    have h1 := leftK_range r hr
    have h2 := leftT_range t (ticketOk_in ht)
    have h3 := leftT_done ht
    unfold allDone at ih ⊢
    rw [leftK, List.all_cons, Bool.and_eq_true, ← h3, ← ih]
    omega
theorem nxt_closed {s e : Int} (h : 3 ≤ s) : nxt s e = -1 := by
  unfold nxt
  rw [if_neg (by omega), if_neg (by omega), if_neg (by omega), if_neg (by omega)]
/-- Nothing of a ticket that is done can change. -/
theorem done_do {t : List Order} (h : doneL t = true) (i e : Int) : (ticketDoL t i e).2 = false := by
  have hok : ticketOkL t = true := by
    unfold doneL at h
    rw [Bool.and_eq_true] at h
    exact h.1
  have hall := (doneL_iff hok).1 h
  cases hi : inR i 0 ((t.length : Int) - 1) with
  | false => rw [ticketDo_off hok hi]
  | true =>
    have hk : i.toNat < t.length := by have := inR_iff.1 hi; omega
    have := hall _ (getD_mem hk)
    unfold openO at this
    rw [decide_eq_false_iff_not] at this
    rw [ticketDo_no hok (by rw [nxt_closed (by omega)]; omega)]
/-- Tickets that are only ordered are valid. -/
theorem plain_ok {ls : List Order} (h6 : ls.length ≤ 6) (h : ∀ o ∈ ls, (0 ≤ o.course ∧ o.course ≤ 2) ∧ o.state = 0) : ticketOkL ls = true := by
  unfold ticketOkL
  rw [decide_eq_true h6, Bool.true_and, List.all_eq_true]
  intro o ho
  obtain ⟨h1, h2⟩ := h o ho
  unfold ticketRow firedO
  rw [orderIn_iff.2 ⟨h1, by omega⟩, h2]
  rfl
/-- Without a dish that is only ordered a valid ticket is valid. -/
theorem less_ok {a b : List Order} {x : Order} (h : ticketOkL (a ++ x :: b) = true) : ticketOkL (a ++ b) = true := by
  unfold ticketOkL at h ⊢
  rw [Bool.and_eq_true, decide_eq_true_eq, List.all_eq_true] at h ⊢
  refine ⟨by have := h.1; simp at this ⊢; omega, fun o ho => ?_⟩
  have hm : ∀ y, y ∈ a ++ b → y ∈ a ++ x :: b := fun y hy => by
    rcases List.mem_append.1 hy with e | e
    · exact List.mem_append.2 (.inl e)
    · exact List.mem_append.2 (.inr (List.mem_cons_of_mem _ e))
  have := h.2 o (hm o ho)
  unfold ticketRow at this ⊢
  rw [Bool.and_eq_true, Bool.or_eq_true] at this ⊢
  refine ⟨this.1, this.2.imp id (fun hr => ?_)⟩
  unfold readyGo at hr ⊢
  rw [List.all_eq_true] at hr ⊢
  exact fun y hy => hr y (hm y hy)
/-- What an event does: only the dish changes, to a later state; the ticket is valid. -/
theorem do_yes {t : List Order} {i e : Int} (h : (ticketDoL t i e).2 = true) :
    ∃ (k : Nat) (n : Int), i = k ∧ k < t.length ∧ ticketOkL t = true ∧ (ticketDoL t i e).1 = turned t k n ∧ ticketOkL (turned t k n) = true ∧ (t.getD k ⟨0, 0⟩).state < n ∧ (t.getD k ⟨0, 0⟩).state < 3 ∧ 1 ≤ n ∧ n ≤ 4 := by
  unfold ticketDoL at h ⊢
  split at h
  · rename_i h0
    split at h
    · rename_i h1
      split at h
      · cases h
      · rename_i h2
        split at h
        · rename_i h3
          have hi := inR_iff.1 h1
          have hk : i.toNat < t.length := by omega
          have hs := (orderIn_iff.1 (ticketOk_in h0 _ (getD_mem hk))).2
          refine ⟨i.toNat, _, by omega, hk, h0, ?_, h3, ?_⟩
          · rw [if_pos h0, if_pos h1, if_neg h2, if_pos h3]
          · generalize (t.getD i.toNat ⟨0, 0⟩).state = s at *
            unfold nxt at h2 ⊢
            split
            · omega
            · split
              · omega
              · split
                · omega
                · split
                  · omega
                  · rename_i a b c d
                    rw [if_neg a, if_neg b, if_neg c, if_neg d] at h2
                    omega
        · cases h
    · cases h
  · cases h
/-- Refused: the ticket stays, or it was none. -/
theorem do_no {t : List Order} {i e : Int} (h : (ticketDoL t i e).2 = false) : (ticketDoL t i e).1 = t ∨ ticketOkL t = false := by
  unfold ticketDoL at h ⊢
  split
  · rename_i h0
    left
    rw [if_pos h0] at h
    split
    · rename_i h1
      rw [if_pos h1] at h
      split
      · rfl
      · rename_i h2
        rw [if_neg h2] at h
        split
        · rename_i h3
          rw [if_pos h3] at h
          cases h
        · rfl
    · rfl
  · rename_i h0
    right
    simpa using h0
end Go.Proofs.YteocmjffjinphaaDoor
