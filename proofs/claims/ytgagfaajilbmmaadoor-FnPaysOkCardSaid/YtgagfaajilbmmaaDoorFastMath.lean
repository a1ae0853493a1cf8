/- The quick settlement: the greatest debt to the greatest claim; the mathematics of one step.
   Conditions: none beyond each statement's own.
   The quick settlement settles all, with fewer payments than people: the mathematics.
   Conditions: none beyond each statement's own. -/
import Derived.Test.YtgagfaajilbmmaaDoorPays3
import Derived.Test.YtgagfaajilbmmaaDoorLeast
namespace Go.Proofs.YtgagfaajilbmmaaDoor
open Go.RowKit

def nz (ys : List Int) : Nat := ys.countP (fun y => y != 0)
def fastStep (ys : List Int) : Pay := ⟨(idxL (minL ys) ys : Nat), (idxL (maxL ys) ys : Nat), if maxL ys < -(minL ys) then maxL ys else -(minL ys)⟩
def fastGo : Nat → List Int → List Pay
  | 0, _ => []
  | m + 1, ys => if ys.all (· == 0) = true then [] else fastStep ys :: fastGo m (carry (fastStep ys) ys)
def settleFastL (xs : List Int) : List Pay := if owedOk xs = true then fastGo xs.length xs else []

theorem sumL_set : ∀ (xs : List Int) (i : Nat) (v : Int), i < xs.length → sumL (xs.set i v) = sumL xs - xs.getD i 0 + v
  | [], i, v, h => by simp at h
  | x :: r, 0, v, _ => by simp [sumL]; omega
  | x :: r, i + 1, v, h => by
    have ih := sumL_set r i v (by simpa using h)
    simp only [List.set_cons_succ, sumL, ih, List.getD_cons_succ]
    omega
theorem nz_set : ∀ (xs : List Int) (i : Nat) (v : Int), i < xs.length → nz (xs.set i v) + (if (xs.getD i 0 != 0) = true then 1 else 0) = nz xs + (if (v != 0) = true then 1 else 0)
  | [], i, v, h => by simp at h
  | x :: r, 0, v, _ => by simp [nz, List.countP_cons]; omega
  | x :: r, i + 1, v, h => by
    have ih := nz_set r i v (by simpa using h)
    simp only [List.set_cons_succ, nz, List.countP_cons, List.getD_cons_succ] at *
    omega
theorem nz_len (xs : List Int) : nz xs ≤ xs.length := List.countP_le_length
theorem nz_pos {xs : List Int} (h : xs.all (· == 0) = false) : 0 < nz xs := by
  rcases Nat.eq_zero_or_pos (nz xs) with e | e
  · have : xs.all (· == 0) = true := by
      unfold nz at e
      rw [List.countP_eq_zero] at e
      rw [List.all_eq_true]
      intro x hx
      have := e x hx
      simpa using this
    rw [this] at h
    cases h
  · exact e

theorem sumL_pos : ∀ {xs : List Int}, (∀ x ∈ xs, 0 ≤ x) → sumL xs = 0 → xs.all (· == 0) = true
  | [], _, _ => rfl
  | x :: r, h, hs => by
    have hx := h x (by simp)
    have hr : 0 ≤ sumL r := by
      have : ∀ (l : List Int), (∀ x ∈ l, 0 ≤ x) → 0 ≤ sumL l := by
        intro l
        induction l with
        | nil => intro _; simp [sumL]
        | cons a l ih => intro hl; have := ih (fun y hy => hl y (by simp [hy])); have := hl a (by simp); simp only [sumL]; omega
      exact this r (fun y hy => h y (by simp [hy]))
    simp only [sumL] at hs
    have := sumL_pos (xs := r) (fun y hy => h y (by simp [hy])) (by omega)
    rw [List.all_cons, this, show (x == 0) = true from (by simp; omega)]
    rfl
theorem sumL_neg : ∀ {xs : List Int}, (∀ x ∈ xs, x ≤ 0) → sumL xs = 0 → xs.all (· == 0) = true
  | [], _, _ => rfl
  | x :: r, h, hs => by
    have hx := h x (by simp)
    have hr : sumL r ≤ 0 := by
      have : ∀ (l : List Int), (∀ x ∈ l, x ≤ 0) → sumL l ≤ 0 := by
        intro l
        induction l with
        | nil => intro _; simp [sumL]
        | cons a l ih => intro hl; have := ih (fun y hy => hl y (by simp [hy])); have := hl a (by simp); simp only [sumL]; omega
      exact this r (fun y hy => h y (by simp [hy]))
    simp only [sumL] at hs
    have := sumL_neg (xs := r) (fun y hy => h y (by simp [hy])) (by omega)
    rw [List.all_cons, this, show (x == 0) = true from (by simp; omega)]
    rfl

/-- What is still owed: each in range, together nothing. -/
structure FInv (n : Nat) (ys : List Int) : Prop where
  len : ys.length = n
  rng : ∀ y ∈ ys, -9999 ≤ y ∧ y ≤ 9999
  sum : sumL ys = 0

theorem FInv.start {xs : List Int} (h : owedOk xs = true) : FInv xs.length xs := by
  have h7 := owedOk_len h
  have hr : ∀ y ∈ xs, -9999 ≤ y ∧ y ≤ 9999 := fun y hy => owedIn_at (owedOk_in h) hy
  refine ⟨rfl, hr, ?_⟩
  have e : sumW xs = sumL xs := by
    unfold sumW
    rw [sumGo_plain xs 0 (-9999) 9999 hr (by omega) (by omega) (by omega) (by omega)]
    omega
  unfold owedOk at h
  simp only [Bool.and_eq_true, beq_iff_eq] at h
  omega

theorem getD_mem {xs : List Int} {i : Nat} (h : i < xs.length) : xs.getD i 0 ∈ xs := by simp [h]

structure FStep (n : Nat) (ys : List Int) (f t : Nat) (s : Int) : Prop where
  eq : fastStep ys = ⟨f, t, s⟩
  f_lt : f < n
  t_lt : t < n
  ne : ¬ t = f
  fv : ys.getD f 0 = minL ys
  tv : ys.getD t 0 = maxL ys
  neg : minL ys < 0
  pos : 0 < maxL ys
  low : -9999 ≤ minL ys
  high : maxL ys ≤ 9999
  s_eq : s = if maxL ys < -(minL ys) then maxL ys else -(minL ys)
  f_first : ∀ i, i < f → ys.getD i 0 ≠ minL ys
  t_first : ∀ i, i < t → ys.getD i 0 ≠ maxL ys

theorem fast_step {n : Nat} {ys : List Int} (h : FInv n ys) (hz : ys.all (· == 0) = false) : ∃ f t s, FStep n ys f t s := by
  have hn : 0 < ys.length := by
    cases ys with
    | nil => simp at hz
    | cons x r => simp
  have hmin := minL_mem hn
  have hmax := maxL_mem hn
  have i1 := idxL_spec hmin
  have i2 := idxL_spec hmax
  have hneg : minL ys < 0 := by
    rcases Int.lt_or_le (minL ys) 0 with e | e
    · exact e
    · rw [sumL_pos (fun x hx => Int.le_trans e (minL_le hx)) h.sum] at hz
      cases hz
  have hpos : 0 < maxL ys := by
    rcases Int.lt_or_le 0 (maxL ys) with e | e
    · exact e
    · rw [sumL_neg (fun x hx => Int.le_trans (maxL_le hx) e) h.sum] at hz
      cases hz
  refine ⟨_, _, _, rfl, by have := i1.1; rw [h.len] at this; exact this, by have := i2.1; rw [h.len] at this; exact this, ?_, i1.2.1, i2.2.1, hneg, hpos, (h.rng _ hmin).1, (h.rng _ hmax).2, rfl, i1.2.2, i2.2.2⟩
  intro e
  have a := i1.2.1
  have b := i2.2.1
  rw [e] at b
  omega

theorem FStep.sum_range {n : Nat} {ys : List Int} {f t : Nat} {s : Int} (h : FStep n ys f t s) : 1 ≤ s ∧ s ≤ 9999 ∧ minL ys + s ≤ 0 ∧ 0 ≤ maxL ys - s ∧ (minL ys + s = 0 ∨ maxL ys - s = 0) := by
  have a := h.s_eq
  have b := h.neg
  have c := h.pos
  have d := h.low
  have e := h.high
  split at a <;> omega

theorem FStep.ok {n : Nat} {ys : List Int} {f t : Nat} {s : Int} (h : FStep n ys f t s) : payOk ⟨f, t, s⟩ n = true := by
  have a := h.f_lt
  have b := h.t_lt
  have c := h.ne
  have d := h.sum_range
  unfold payOk
  simp only [Bool.and_eq_true, inR_iff, bne_iff_ne, ne_eq]
  omega

theorem FStep.carry_eq {n : Nat} {ys : List Int} {f t : Nat} {s : Int} (h : FStep n ys f t s) : carry ⟨f, t, s⟩ ys = (ys.set f (minL ys + s)).set t (maxL ys - s) := by
  have d := h.sum_range
  have e1 := h.low
  have e2 := h.high
  have e3 := h.neg
  have e4 := h.pos
  unfold carry
  simp only [Int.toNat_natCast]
  rw [h.fv, h.tv, IntWalk.wrap64_in _ (by omega), IntWalk.wrap64_in _ (by omega)]

theorem FStep.next {n : Nat} {ys : List Int} {f t : Nat} {s : Int} (hi : FInv n ys) (h : FStep n ys f t s) : FInv n (carry ⟨f, t, s⟩ ys) ∧ nz (carry ⟨f, t, s⟩ ys) < nz ys := by
  have d := h.sum_range
  have e1 := h.low
  have e2 := h.high
  have e3 := h.neg
  have e4 := h.pos
  have hf : f < ys.length := by rw [hi.len]; exact h.f_lt
  have ht : t < ys.length := by rw [hi.len]; exact h.t_lt
  have ht' : t < (ys.set f (minL ys + s)).length := by rw [List.length_set]; exact ht
  have hg : (ys.set f (minL ys + s)).getD t 0 = maxL ys := by
    rw [← h.tv]
    simp only [List.getD_eq_getElem?_getD]
    rw [List.getElem?_set_ne (fun e => h.ne e.symm)]
  rw [h.carry_eq]
  refine ⟨⟨by simp [hi.len], fun y hy => ?_, ?_⟩, ?_⟩
  · rcases List.mem_or_eq_of_mem_set hy with hy | rfl
    · rcases List.mem_or_eq_of_mem_set hy with hy | rfl
      · exact hi.rng y hy
      · omega
    · omega
  · rw [sumL_set _ _ _ ht', hg, sumL_set _ _ _ hf, h.fv, hi.sum]
    omega
  · have a := nz_set _ t (maxL ys - s) ht'
    have b := nz_set _ f (minL ys + s) hf
    rw [hg] at a
    rw [h.fv] at b
    rw [if_pos (by simp; omega)] at a b
    rcases d.2.2.2.2 with e | e
    · rw [e] at b a ⊢
      simp at b
      split at a <;> omega
    · rw [e] at a ⊢
      simp at a
      split at b <;> omega

theorem fastGo_zero {m : Nat} {ys : List Int} (h : ys.all (· == 0) = true) : fastGo m ys = [] := by
  cases m with
  | zero => rfl
  | succ m => unfold fastGo; rw [if_pos h]
theorem fastGo_step {m : Nat} {ys : List Int} (h : ys.all (· == 0) = false) : fastGo (m + 1) ys = fastStep ys :: fastGo m (carry (fastStep ys) ys) := by
  rw [fastGo, if_neg (by rw [h]; decide)]
theorem fastGo_len : ∀ (m : Nat) (ys : List Int), (fastGo m ys).length ≤ m
  | 0, _ => by simp [fastGo]
  | m + 1, ys => by
    unfold fastGo
    split
    · simp
    · have := fastGo_len m (carry (fastStep ys) ys)
      simp only [List.length_cons]
      omega
theorem settleFastL_len (xs : List Int) : (settleFastL xs).length ≤ 1048576 := by
  unfold settleFastL
  split
  · next h => have := fastGo_len xs.length xs; have := owedOk_len h; omega
  · simp

/-- The first one of the least, when it is below 0; -1 if there is none. -/
def FstLow (ys : List Int) (k : Nat) (f : Int) : Prop :=
  (f = -1 ∧ ∀ i, i < k → 0 ≤ ys.getD i 0) ∨ ∃ j : Nat, j < k ∧ f = j ∧ ys.getD j 0 < 0 ∧ (∀ i, i < k → ys.getD j 0 ≤ ys.getD i 0) ∧ ∀ i, i < j → ys.getD j 0 < ys.getD i 0
def FstHigh (ys : List Int) (k : Nat) (f : Int) : Prop :=
  (f = -1 ∧ ∀ i, i < k → ys.getD i 0 ≤ 0) ∨ ∃ j : Nat, j < k ∧ f = j ∧ 0 < ys.getD j 0 ∧ (∀ i, i < k → ys.getD i 0 ≤ ys.getD j 0) ∧ ∀ i, i < j → ys.getD i 0 < ys.getD j 0

theorem lt_succ_cases {P : Nat → Prop} {k : Nat} (h : ∀ i, i < k → P i) (hk : P k) : ∀ i, i < k + 1 → P i := by
  intro i hi
  rcases Nat.lt_or_ge i k with e | e
  · exact h i e
  · obtain rfl : i = k := by omega
    exact hk

theorem FstLow.keep {ys : List Int} {k : Nat} {f : Int} (h : FstLow ys k f) (hx : f = -1 → 0 ≤ ys.getD k 0) (hx' : ∀ j : Nat, f = j → ys.getD j 0 ≤ ys.getD k 0) : FstLow ys (k + 1) f := by
  rcases h with ⟨e, h⟩ | ⟨j, hj, e, h1, h2, h3⟩
  · exact .inl ⟨e, lt_succ_cases h (hx e)⟩
  · exact .inr ⟨j, by omega, e, h1, lt_succ_cases h2 (hx' j e), h3⟩
theorem FstLow.take {ys : List Int} {k : Nat} {f : Int} (h : FstLow ys k f) (hx : ys.getD k 0 < 0) (hx' : ∀ j : Nat, f = j → ys.getD k 0 < ys.getD j 0) : FstLow ys (k + 1) k := by
  rcases h with ⟨e, h⟩ | ⟨j, hj, e, h1, h2, h3⟩
  · exact .inr ⟨k, by omega, rfl, hx, lt_succ_cases (fun i hi => by have := h i hi; omega) (by omega), fun i hi => by have := h i hi; omega⟩
  · have hl := hx' j e
    exact .inr ⟨k, by omega, rfl, hx, lt_succ_cases (fun i hi => by have := h2 i hi; omega) (by omega), fun i hi => by have := h2 i hi; omega⟩
theorem FstHigh.keep {ys : List Int} {k : Nat} {f : Int} (h : FstHigh ys k f) (hx : f = -1 → ys.getD k 0 ≤ 0) (hx' : ∀ j : Nat, f = j → ys.getD k 0 ≤ ys.getD j 0) : FstHigh ys (k + 1) f := by
  rcases h with ⟨e, h⟩ | ⟨j, hj, e, h1, h2, h3⟩
  · exact .inl ⟨e, lt_succ_cases h (hx e)⟩
  · exact .inr ⟨j, by omega, e, h1, lt_succ_cases h2 (hx' j e), h3⟩
theorem FstHigh.take {ys : List Int} {k : Nat} {f : Int} (h : FstHigh ys k f) (hx : 0 < ys.getD k 0) (hx' : ∀ j : Nat, f = j → ys.getD j 0 < ys.getD k 0) : FstHigh ys (k + 1) k := by
  rcases h with ⟨e, h⟩ | ⟨j, hj, e, h1, h2, h3⟩
  · exact .inr ⟨k, by omega, rfl, hx, lt_succ_cases (fun i hi => by have := h i hi; omega) (by omega), fun i hi => by have := h i hi; omega⟩
  · have hl := hx' j e
    exact .inr ⟨k, by omega, rfl, hx, lt_succ_cases (fun i hi => by have := h2 i hi; omega) (by omega), fun i hi => by have := h2 i hi; omega⟩

theorem FstLow.skip {ys : List Int} {k : Nat} {f : Int} (h : FstLow ys k f) (hx : 0 ≤ ys.getD k 0) : FstLow ys (k + 1) f := by
  refine h.keep (fun _ => hx) (fun j hj => ?_)
  rcases h with ⟨e, _⟩ | ⟨j', _, e, h1, _⟩
  · omega
  · obtain rfl : j = j' := by omega
    omega
theorem FstHigh.skip {ys : List Int} {k : Nat} {f : Int} (h : FstHigh ys k f) (hx : ys.getD k 0 ≤ 0) : FstHigh ys (k + 1) f := by
  refine h.keep (fun _ => hx) (fun j hj => ?_)
  rcases h with ⟨e, _⟩ | ⟨j', _, e, h1, _⟩
  · omega
  · obtain rfl : j = j' := by omega
    omega
theorem FstLow.cases {ys : List Int} {k : Nat} {f : Int} (h : FstLow ys k f) : f = -1 ∨ ∃ j : Nat, f = j ∧ j < k := by
  rcases h with ⟨e, _⟩ | ⟨j, hj, e, _⟩
  · exact .inl e
  · exact .inr ⟨j, e, hj⟩
theorem FstHigh.cases {ys : List Int} {k : Nat} {f : Int} (h : FstHigh ys k f) : f = -1 ∨ ∃ j : Nat, f = j ∧ j < k := by
  rcases h with ⟨e, _⟩ | ⟨j, hj, e, _⟩
  · exact .inl e
  · exact .inr ⟨j, e, hj⟩

theorem FstLow.done {n : Nat} {ys : List Int} {f t : Nat} {s v : Int} (hn : ys.length = n) (hs : FStep n ys f t s) (h : FstLow ys n v) : v = f := by
  have hf : f < ys.length := by rw [hn]; exact hs.f_lt
  rcases h with ⟨_, h⟩ | ⟨j, hj, rfl, h1, h2, h3⟩
  · have := h f hs.f_lt
    rw [hs.fv] at this
    have := hs.neg
    omega
  · have a := h2 f hs.f_lt
    have b := minL_le (getD_mem (show j < ys.length by omega))
    rw [hs.fv] at a
    have e : ys.getD j 0 = minL ys := by omega
    rcases Nat.lt_trichotomy j f with c | c | c
    · exact absurd e (hs.f_first j c)
    · rw [c]
    · have := h3 f c
      rw [hs.fv] at this
      omega
theorem FstHigh.done {n : Nat} {ys : List Int} {f t : Nat} {s v : Int} (hn : ys.length = n) (hs : FStep n ys f t s) (h : FstHigh ys n v) : v = t := by
  have hf : t < ys.length := by rw [hn]; exact hs.t_lt
  rcases h with ⟨_, h⟩ | ⟨j, hj, rfl, h1, h2, h3⟩
  · have := h t hs.t_lt
    rw [hs.tv] at this
    have := hs.pos
    omega
  · have a := h2 t hs.t_lt
    have b := maxL_le (getD_mem (show j < ys.length by omega))
    rw [hs.tv] at a
    have e : ys.getD j 0 = maxL ys := by omega
    rcases Nat.lt_trichotomy j t with c | c | c
    · exact absurd e (hs.t_first j c)
    · rw [c]
    · have := h3 t c
      rw [hs.tv] at this
      omega
theorem all_zero_at {ys : List Int} (h : ys.all (· == 0) = true) {i : Nat} : ys.getD i 0 = 0 := by
  rcases Nat.lt_or_ge i ys.length with e | e
  · have := List.all_eq_true.1 h _ (getD_mem e)
    simpa using this
  · simp [e]
theorem FstLow.none {ys : List Int} {k : Nat} {v : Int} (hz : ys.all (· == 0) = true) (h : FstLow ys k v) : v = -1 := by
  rcases h with ⟨e, _⟩ | ⟨j, _, _, h1, _⟩
  · exact e
  · rw [all_zero_at hz] at h1
    omega
theorem FstHigh.none {ys : List Int} {k : Nat} {v : Int} (hz : ys.all (· == 0) = true) (h : FstHigh ys k v) : v = -1 := by
  rcases h with ⟨e, _⟩ | ⟨j, _, _, h1, _⟩
  · exact e
  · rw [all_zero_at hz] at h1
    omega
end Go.Proofs.YtgagfaajilbmmaaDoor

namespace Go.Proofs.YtgagfaajilbmmaaDoor
open Go.RowKit

theorem nz_zero {ys : List Int} (h : ys.all (· == 0) = true) : nz ys = 0 := by
  unfold nz
  rw [List.countP_eq_zero]
  intro x hx
  have := List.all_eq_true.1 h x hx
  simpa using this
theorem nz_two {n : Nat} {ys : List Int} {f t : Nat} {s : Int} (hi : FInv n ys) (h : FStep n ys f t s) : 2 ≤ nz ys := by
  have hf : f < ys.length := by rw [hi.len]; exact h.f_lt
  have ht : t < ys.length := by rw [hi.len]; exact h.t_lt
  have ht' : t < (ys.set f 0).length := by rw [List.length_set]; exact ht
  have hg : (ys.set f 0).getD t 0 = maxL ys := by
    rw [← h.tv]
    simp only [List.getD_eq_getElem?_getD]
    rw [List.getElem?_set_ne (fun e => h.ne e.symm)]
  have a := nz_set _ t 0 ht'
  have b := nz_set _ f 0 hf
  have c := h.neg
  have d := h.pos
  rw [hg, if_pos (by simp; omega)] at a
  rw [h.fv, if_pos (by simp; omega)] at b
  simp at a b
  omega
theorem fast_done : ∀ (m : Nat) {n : Nat} {ys : List Int}, FInv n ys → nz ys ≤ m → paysGo (fastGo m ys) ys = true ∧ (0 < nz ys → (fastGo m ys).length < nz ys)
  | m, n, ys, hi, hm => by
    cases hz : ys.all (· == 0) with
    | true =>
      rw [fastGo_zero hz, nz_zero hz]
      exact ⟨hz, fun h => absurd h (by omega)⟩
    | false =>
      have hp := nz_pos hz
      obtain ⟨f, t, s, hs⟩ := fast_step hi hz
      cases m with
      | zero => omega
      | succ m =>
        have hn := hs.next hi
        have ih := fast_done m hn.1 (by omega)
        have h2 := nz_two hi hs
        rw [fastGo_step hz, hs.eq]
        refine ⟨?_, fun _ => ?_⟩
        · show (payOk ⟨f, t, s⟩ ys.length && paysGo (fastGo m (carry ⟨f, t, s⟩ ys)) (carry ⟨f, t, s⟩ ys)) = true
          rw [hi.len, hs.ok, ih.1]
          rfl
        · rw [List.length_cons]
          rcases Nat.eq_zero_or_pos (nz (carry ⟨f, t, s⟩ ys)) with e | e
          · have hz' : (carry ⟨f, t, s⟩ ys).all (· == 0) = true := by
              cases hc : (carry ⟨f, t, s⟩ ys).all (· == 0) with
              | true => rfl
              | false => have := nz_pos hc; omega
            rw [fastGo_zero hz']
            simp
            omega
          · have := ih.2 e
            omega
theorem settleFast_said {xs : List Int} (h : owedOk xs = true) : paysOkL xs (settleFastL xs) = true ∧ (nz xs = 0 → settleFastL xs = []) ∧ (0 < nz xs → (settleFastL xs).length < nz xs) := by
  have hd := fast_done xs.length (FInv.start h) (nz_len xs)
  unfold paysOkL settleFastL
  rw [if_pos h, h]
  refine ⟨by rw [hd.1]; rfl, fun e => ?_, hd.2⟩
  cases hz : xs.all (· == 0) with
  | true => exact fastGo_zero hz
  | false => have := nz_pos hz; omega
theorem nz_take {xs : List Int} {k : Nat} {x : Int} (h : xs[k]? = some x) : nz (xs.take (k + 1)) = nz (xs.take k) + (if (x != 0) = true then 1 else 0) := by
  obtain ⟨hk, e⟩ := List.getElem?_eq_some_iff.1 h
  rw [List.take_succ_eq_append_getElem hk, e]
  unfold nz
  rw [List.countP_append]
  simp [List.countP_cons]
end Go.Proofs.YtgagfaajilbmmaaDoor
