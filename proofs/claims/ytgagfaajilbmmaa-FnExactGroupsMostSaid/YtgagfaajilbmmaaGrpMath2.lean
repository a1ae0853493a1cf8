/- GrpMath2: sets of people as numbers, the table of groups, the fewest payments; plain mathematics.
   Conditions: none beyond each statement's own. -/
import Derived.Test.YtgagfaajilbmmaaGrpMath
namespace Go.Proofs.Ytgagfaajilbmmaa

/-- The amounts of those in a set. -/
def gSub : List Int → Nat → List Int
  | [], _ => []
  | x :: xs, s => if s % 2 = 1 then x :: gSub xs (s / 2) else gSub xs (s / 2)
/-- The amounts of those in a set, and nothing for all others. -/
def gPart : List Int → Nat → List Int
  | [], _ => []
  | x :: xs, s => (if s % 2 = 1 then x else 0) :: gPart xs (s / 2)

theorem and_half (a b : Nat) : (a &&& b) / 2 = a / 2 &&& b / 2 := by
  have := Nat.and_div_two_pow (n := 1) (a := a) (b := b)
  simpa using this
theorem and_odd (a b : Nat) : (a &&& b) % 2 = a % 2 &&& b % 2 := by
  have := Nat.and_mod_two_pow (n := 1) (a := a) (b := b)
  simpa using this
theorem within_half {p s : Nat} (h : p &&& s = p) : p / 2 &&& s / 2 = p / 2 ∧ p % 2 ≤ s % 2 := by
  refine ⟨by rw [← and_half, h], ?_⟩
  have := and_odd p s
  rw [h] at this
  rw [this]
  exact Nat.and_le_right
theorem within_le {p s : Nat} (h : p &&& s = p) : p ≤ s := by
  rw [← h]
  exact Nat.and_le_right
theorem within_make {p s : Nat} (h : p / 2 &&& s / 2 = p / 2) (h2 : p % 2 ≤ s % 2) : p &&& s = p := by
  have a := and_half p s
  have b := and_odd p s
  have c : p % 2 &&& s % 2 = p % 2 := by
    have e1 : p % 2 = 0 ∨ p % 2 = 1 := by omega
    have e2 : s % 2 = 0 ∨ s % 2 = 1 := by omega
    rcases e1 with e1 | e1 <;> rcases e2 with e2 | e2 <;> rw [e1, e2] <;> first | rfl | omega
  rw [h] at a
  rw [c] at b
  omega
theorem within_self (s : Nat) : s &&& s = s := Nat.and_self s
theorem within_trans {p q s : Nat} (h1 : p &&& q = p) (h2 : q &&& s = q) : p &&& s = p := by
  rw [← h1, Nat.and_assoc, h2]
theorem rest_within : ∀ (n : Nat) {p s : Nat}, s ≤ n → p &&& s = p → (s - p) &&& s = s - p := by
  intro n
  induction n using Nat.strongRecOn with
  | _ n ih =>
    intro p s hn h
    by_cases h0 : s = 0
    · subst h0
      simp
    · have hw := within_half h
      have hl := within_le h
      have hl2 := within_le hw.1
      have := ih (s / 2) (by omega) (Nat.le_refl _) hw.1
      refine within_make ?_ (by omega)
      rw [show (s - p) / 2 = s / 2 - p / 2 from by omega]
      exact this
theorem gSub_zero : ∀ xs : List Int, gSub xs 0 = []
  | [] => rfl
  | x :: r => by
    rw [gSub, if_neg (by decide), Nat.zero_div]
    exact gSub_zero r
theorem gPart_len : ∀ (xs : List Int) (s : Nat), (gPart xs s).length = xs.length
  | [], _ => rfl
  | x :: r, s => by rw [gPart, List.length_cons, gPart_len r, List.length_cons]
theorem gSub_full : ∀ xs : List Int, gSub xs (2 ^ xs.length - 1) = xs
  | [] => rfl
  | x :: r => by
    have hp := Nat.two_pow_pos r.length
    rw [List.length_cons, gSub, Nat.pow_succ, if_pos (by omega), show (2 ^ r.length * 2 - 1) / 2 = 2 ^ r.length - 1 from by omega, gSub_full r]
theorem gSub_ne : ∀ (xs : List Int) (s : Nat), s < 2 ^ xs.length → s ≠ 0 → gSub xs s ≠ []
  | [], s, h, h0 => by simp at h; omega
  | x :: r, s, h, h0 => by
    rw [List.length_cons, Nat.pow_succ] at h
    rw [gSub]
    split
    · simp
    · exact gSub_ne r (s / 2) (by omega) (by omega)
theorem gSub_shuf : ∀ (xs : List Int) {p s : Nat}, p &&& s = p → GShuf (gSub xs s) (gSub xs p) (gSub xs (s - p))
  | [], p, s, _ => ⟨rfl, rfl⟩
  | x :: r, p, s, h => by
    have hw := within_half h
    have hl := within_le h
    have hl2 := within_le hw.1
    have ih := gSub_shuf r hw.1
    have e : (s - p) / 2 = s / 2 - p / 2 := by omega
    rw [gSub, gSub, gSub, e]
    by_cases h1 : s % 2 = 1
    · rw [if_pos h1]
      by_cases h2 : p % 2 = 1
      · rw [if_pos h2, if_neg (by omega)]
        exact .inl ⟨_, rfl, ih⟩
      · rw [if_neg h2, if_pos (by omega)]
        exact .inr ⟨_, rfl, ih⟩
    · rw [if_neg h1, if_neg (by omega), if_neg (by omega)]
      exact ih
theorem gShuf_sub : ∀ (xs : List Int) (s : Nat) {us bs : List Int}, GShuf (gSub xs s) us bs → ∃ p, p &&& s = p ∧ gSub xs p = us ∧ gSub xs (s - p) = bs
  | [], s, us, bs, h => by
    obtain ⟨rfl, rfl⟩ := h
    exact ⟨0, by simp, rfl, rfl⟩
  | x :: r, s, us, bs, h => by
    rw [gSub] at h
    by_cases h1 : s % 2 = 1
    · rw [if_pos h1] at h
      rcases h with ⟨a', rfl, h⟩ | ⟨b', rfl, h⟩
      · obtain ⟨p, hp, h2, h3⟩ := gShuf_sub r (s / 2) h
        have hl := within_le hp
        refine ⟨2 * p + 1, within_make (by rw [show (2 * p + 1) / 2 = p from by omega]; exact hp) (by omega), ?_, ?_⟩
        · rw [gSub, if_pos (by omega), show (2 * p + 1) / 2 = p from by omega, h2]
        · rw [gSub, if_neg (by omega), show (s - (2 * p + 1)) / 2 = s / 2 - p from by omega, h3]
      · obtain ⟨p, hp, h2, h3⟩ := gShuf_sub r (s / 2) h
        have hl := within_le hp
        refine ⟨2 * p, within_make (by rw [show (2 * p) / 2 = p from by omega]; exact hp) (by omega), ?_, ?_⟩
        · rw [gSub, if_neg (by omega), show (2 * p) / 2 = p from by omega, h2]
        · rw [gSub, if_pos (by omega), show (s - 2 * p) / 2 = s / 2 - p from by omega, h3]
    · rw [if_neg h1] at h
      obtain ⟨p, hp, h2, h3⟩ := gShuf_sub r (s / 2) h
      have hl := within_le hp
      refine ⟨2 * p, within_make (by rw [show (2 * p) / 2 = p from by omega]; exact hp) (by omega), ?_, ?_⟩
      · rw [gSub, if_neg (by omega), show (2 * p) / 2 = p from by omega, h2]
      · rw [gSub, if_neg (by omega), show (s - 2 * p) / 2 = s / 2 - p from by omega, h3]

/-- The best of the divisions into two with a first part up to j. -/
def gBest (t : Nat → Int) (s : Nat) : Nat → Int
  | 0 => 1
  | p + 1 => if (p + 1) &&& s = p + 1 ∧ t (p + 1) ≠ -1 then (if gBest t s p ≤ t (p + 1) + t (s - (p + 1)) then t (p + 1) + t (s - (p + 1)) else gBest t s p) else gBest t s p
def gT (xs : List Int) : Nat → Nat → Int
  | 0, _ => 0
  | m + 1, s => if s ≤ m then gT xs m s else if sumL (gSub xs s) = 0 then gBest (gT xs m) s (s - 1) else -1
/-- Into how many groups a set can be divided at most, -1 if it is not even. -/
def gV (xs : List Int) (s : Nat) : Int := gT xs s s
theorem gT_le (xs : List Int) : ∀ m s, s ≤ m → gT xs m s = gV xs s
  | 0, s, h => by
    obtain rfl : s = 0 := by omega
    rfl
  | m + 1, s, h => by
    by_cases hs : s ≤ m
    · rw [gT, if_pos hs, gT_le xs m s hs]
    · obtain rfl : s = m + 1 := by omega
      rfl
theorem gBest_congr {t t' : Nat → Int} {s : Nat} (h : ∀ p, 1 ≤ p → p < s → t p = t' p) : ∀ j, j < s → gBest t s j = gBest t' s j
  | 0, _ => rfl
  | p + 1, hj => by
    rw [gBest, gBest, gBest_congr h p (by omega), h (p + 1) (by omega) hj, h (s - (p + 1)) (by omega) (by omega)]
theorem gV_zero (xs : List Int) : gV xs 0 = 0 := rfl
theorem gV_eq (xs : List Int) {s : Nat} (h : 0 < s) : gV xs s = if sumL (gSub xs s) = 0 then gBest (gV xs) s (s - 1) else -1 := by
  obtain ⟨m, rfl⟩ : ∃ m, s = m + 1 := ⟨s - 1, by omega⟩
  unfold gV
  rw [gT, if_neg (by omega)]
  split
  · exact gBest_congr (fun p h1 h2 => gT_le xs m p (by omega)) _ (by omega)
  · rfl
theorem gBest_pos (t : Nat → Int) (s : Nat) : ∀ j, 1 ≤ gBest t s j
  | 0 => Int.le_refl _
  | p + 1 => by
    have := gBest_pos t s p
    rw [gBest]
    split
    · split <;> omega
    · exact this
theorem gBest_ge {t : Nat → Int} {s p : Nat} (h : p &&& s = p) (h1 : 1 ≤ p) (ht : t p ≠ -1) : ∀ j, p ≤ j → t p + t (s - p) ≤ gBest t s j
  | 0, hj => by omega
  | q + 1, hj => by
    rw [gBest]
    by_cases e : p = q + 1
    · subst e
      rw [if_pos ⟨h, ht⟩]
      split <;> omega
    · have := gBest_ge h h1 ht q (by omega)
      split
      · split <;> omega
      · exact this
theorem gBest_at {t : Nat → Int} {s : Nat} : ∀ j, gBest t s j = 1 ∨ ∃ p, 1 ≤ p ∧ p ≤ j ∧ p &&& s = p ∧ t p ≠ -1 ∧ gBest t s j = t p + t (s - p)
  | 0 => .inl rfl
  | q + 1 => by
    rw [gBest]
    have ih := gBest_at (t := t) (s := s) q
    have low : gBest t s q = 1 ∨ ∃ p, 1 ≤ p ∧ p ≤ q + 1 ∧ p &&& s = p ∧ t p ≠ -1 ∧ gBest t s q = t p + t (s - p) := by
      rcases ih with h | ⟨p, a, b, c⟩
      · exact .inl h
      · exact .inr ⟨p, a, by omega, c⟩
    split
    · rename_i hc
      split
      · exact .inr ⟨q + 1, by omega, by omega, hc.1, hc.2, rfl⟩
      · exact low
    · exact low
theorem gV_pos {xs : List Int} {s : Nat} (h : 0 < s) (h0 : sumL (gSub xs s) = 0) : 1 ≤ gV xs s := by
  rw [gV_eq xs h, if_pos h0]
  exact gBest_pos _ _ _
theorem gV_none {xs : List Int} {s : Nat} (h0 : sumL (gSub xs s) ≠ 0) : gV xs s = -1 := by
  have h : 0 < s := by
    rcases Nat.eq_zero_or_pos s with e | e
    · subst e
      rw [gSub_zero] at h0
      exact absurd rfl h0
    · exact e
  rw [gV_eq xs h, if_neg h0]
theorem gV_not {xs : List Int} {s : Nat} (h : 0 < s) : gV xs s ≠ -1 ↔ sumL (gSub xs s) = 0 := by
  constructor
  · intro hn
    rcases Decidable.em (sumL (gSub xs s) = 0) with e | e
    · exact e
    · exact absurd (gV_none e) hn
  · intro e
    have := gV_pos h e
    omega
theorem gV_nonneg {xs : List Int} {s : Nat} (h0 : sumL (gSub xs s) = 0) : 0 ≤ gV xs s := by
  rcases Nat.eq_zero_or_pos s with e | e
  · subst e
    exact Int.le_refl _
  · have := gV_pos e h0
    omega
theorem gV_many {xs : List Int} : ∀ (n s : Nat), s ≤ n → s < 2 ^ xs.length → sumL (gSub xs s) = 0 → ∀ k : Nat, GMany (gSub xs s) k ↔ (k : Int) ≤ gV xs s := by
  intro n
  induction n with
  | zero =>
    intro s hn _ _ k
    obtain rfl : s = 0 := by omega
    rw [gSub_zero, gV_zero, gMany_nil]
    omega
  | succ n ih =>
    intro s hn hlt h0 k
    rcases Nat.eq_zero_or_pos s with e | hs
    · subst e
      rw [gSub_zero, gV_zero, gMany_nil]
      omega
    · rw [gV_eq xs hs, if_pos h0]
      have hpos := gBest_pos (gV xs) s (s - 1)
      constructor
      · intro hk
        match k, hk with
        | 0, _ => omega
        | 1, _ => omega
        | k + 2, hk =>
          obtain ⟨us, bs, h1, h2, h3, h4, h5, h6⟩ := hk.split
          obtain ⟨p, hp, rfl, rfl⟩ := gShuf_sub xs s h1
          have hl := within_le hp
          have hp0 : p ≠ 0 := fun e => h2 (by rw [e]; exact gSub_zero xs)
          have hr0 : s - p ≠ 0 := fun e => h3 (by rw [e]; exact gSub_zero xs)
          have a := gV_pos (xs := xs) (s := p) (by omega) h4
          have b := (ih (s - p) (by omega) (by omega) h5 (k + 1)).1 h6
          have c := gBest_ge (t := gV xs) hp (by omega) (by omega) (s - 1) (by omega)
          omega
      · intro hk
        rcases gBest_at (t := gV xs) (s := s) (s - 1) with h | ⟨p, h1, h2, hp, h4, h5⟩
        · exact (gMany_one h0 (gSub_ne xs s hlt (by omega))).less (by omega)
        · have hsh := gSub_shuf xs hp
          have e1 := (gV_not (xs := xs) (s := p) (by omega)).1 h4
          have e2 : sumL (gSub xs (s - p)) = 0 := by
            have := hsh.sum
            omega
          have p1 := gV_nonneg e1
          have p2 := gV_nonneg e2
          have a := (ih p (by omega) (by omega) e1 (gV xs p).toNat).2 (by omega)
          have b := (ih (s - p) (by omega) (by omega) e2 (gV xs (s - p)).toNat).2 (by omega)
          exact (GMany.join hsh a b).less (by omega)
theorem gV_is {xs : List Int} {s : Nat} (hlt : s < 2 ^ xs.length) (h0 : sumL (gSub xs s) = 0) (k : Nat) : GMany (gSub xs s) k ↔ (k : Int) ≤ gV xs s := gV_many s s (Nat.le_refl _) hlt h0 k
theorem gV_same {xs ys : List Int} {s t : Nat} (h1 : s < 2 ^ xs.length) (h2 : t < 2 ^ ys.length) (h : gSub xs s = gSub ys t) : gV xs s = gV ys t := by
  rcases Decidable.em (sumL (gSub xs s) = 0) with e | e
  · have e' : sumL (gSub ys t) = 0 := by rw [← h]; exact e
    have a := gV_nonneg e
    have b := gV_nonneg e'
    have c := (gV_is h1 e (gV ys t).toNat).1 (by rw [h]; exact (gV_is h2 e' _).2 (by omega))
    have d := (gV_is h2 e' (gV xs s).toNat).1 (by rw [← h]; exact (gV_is h1 e _).2 (by omega))
    omega
  · rw [gV_none e, gV_none (by rw [← h]; exact e)]
theorem gSub_len : ∀ (xs : List Int) (s : Nat), (gSub xs s).length ≤ xs.length
  | [], _ => Nat.le_refl _
  | x :: r, s => by
    have := gSub_len r (s / 2)
    rw [gSub]
    split
    · simpa using this
    · rw [List.length_cons]
      omega
theorem gV_le {xs : List Int} {s : Nat} (hlt : s < 2 ^ xs.length) : gV xs s ≤ xs.length ∧ -1 ≤ gV xs s := by
  rcases Decidable.em (sumL (gSub xs s) = 0) with e | e
  · have a := gV_nonneg e
    have b := gMany_len ((gV_is hlt e (gV xs s).toNat).2 (by omega))
    have c := gSub_len xs s
    omega
  · rw [gV_none e]
    omega
theorem gV_within {xs : List Int} {p s : Nat} (hlt : s < 2 ^ xs.length) (h : p &&& s = p) (h0 : sumL (gSub xs s) = 0) (h1 : sumL (gSub xs p) = 0) : gV xs p + gV xs (s - p) ≤ gV xs s := by
  have hl := within_le h
  have hsh := gSub_shuf xs h
  have e2 : sumL (gSub xs (s - p)) = 0 := by
    have := hsh.sum
    omega
  have a := gV_nonneg h1
  have b := gV_nonneg e2
  have c := (gV_is hlt h0 ((gV xs p).toNat + (gV xs (s - p)).toNat)).1 (GMany.join hsh ((gV_is (by omega) h1 _).2 (by omega)) ((gV_is (by omega) e2 _).2 (by omega)))
  omega

/-- The first group. -/
def gCond (xs : List Int) (left g : Nat) : Bool := decide (g &&& left = g) && (gV xs g == 1 && gV xs (left - g) == gV xs left - 1)
def gFirstGo (xs : List Int) (left : Nat) : Nat → Nat → Nat
  | 0, _ => left
  | f + 1, g => if gCond xs left g = true then g else gFirstGo xs left f (g + 1)
def gFirst (xs : List Int) (left : Nat) : Nat := gFirstGo xs left (left - 1) 1
theorem gFirstGo_or (xs : List Int) (left : Nat) : ∀ f g, f + g = left → 1 ≤ g → (gCond xs left (gFirstGo xs left f g) = true ∧ 1 ≤ gFirstGo xs left f g) ∨ (gFirstGo xs left f g = left ∧ ∀ h, g ≤ h → h < left → gCond xs left h = false)
  | 0, g, e, _ => .inr ⟨rfl, fun h h1 h2 => by omega⟩
  | f + 1, g, e, hg => by
    rw [gFirstGo]
    cases hc : gCond xs left g with
    | true => exact .inl (by rw [if_pos rfl]; exact ⟨hc, hg⟩)
    | false =>
      rw [if_neg (by decide)]
      rcases gFirstGo_or xs left f (g + 1) (by omega) (by omega) with h | ⟨h1, h2⟩
      · exact .inl h
      · refine .inr ⟨h1, fun h a b => ?_⟩
        by_cases e : h = g
        · rw [e]
          exact hc
        · exact h2 h (by omega) b
structure GFirst (xs : List Int) (left p : Nat) : Prop where
  pos : 1 ≤ p
  within : p &&& left = p
  one : gV xs p = 1
  rest : gV xs (left - p) = gV xs left - 1
theorem gFirst_is {xs : List Int} {left : Nat} (hlt : left < 2 ^ xs.length) (h0 : sumL (gSub xs left) = 0) (hp : 0 < left) : GFirst xs left (gFirst xs left) := by
  have hc : ∀ g, 1 ≤ g → gCond xs left g = true → GFirst xs left g := by
    intro g h1 h
    unfold gCond at h
    simp only [Bool.and_eq_true, decide_eq_true_eq, beq_iff_eq] at h
    exact ⟨h1, h.1, h.2.1, h.2.2⟩
  rcases gFirstGo_or xs left (left - 1) 1 (by omega) (by omega) with ⟨h1, h2⟩ | ⟨h1, h2⟩
  · exact hc _ h2 h1
  · have e : gFirst xs left = left := h1
    have hv : gV xs left = 1 := by
      have := gV_pos hp h0
      rcases Int.lt_or_le 1 (gV xs left) with hl | hl
      · obtain ⟨k, hk⟩ : ∃ k : Nat, gV xs left = ((k + 2 : Nat) : Int) := ⟨(gV xs left - 2).toNat, by omega⟩
        obtain ⟨us, bs, a1, a2, a3, a4, a5, a6⟩ := ((gV_is hlt h0 (k + 2)).2 (by omega)).split
        obtain ⟨p, hp', rfl, rfl⟩ := gShuf_sub xs left a1
        have hle := within_le hp'
        have hp0 : p ≠ 0 := fun e => a2 (by rw [e]; exact gSub_zero xs)
        have hr0 : left - p ≠ 0 := fun e => a3 (by rw [e]; exact gSub_zero xs)
        have b1 := gV_pos (xs := xs) (s := p) (by omega) a4
        have b2 := (gV_is (xs := xs) (s := left - p) (by omega) a5 (k + 1)).1 a6
        have b3 := gV_within hlt hp' h0 a4
        have := h2 p (by omega) (by omega)
        unfold gCond at this
        rw [show gV xs p = 1 from by omega, show gV xs (left - p) = gV xs left - 1 from by omega] at this
        simp [hp'] at this
      · omega
    rw [e]
    exact ⟨hp, within_self left, hv, by rw [Nat.sub_self, gV_zero, hv]; rfl⟩

/-- Who is open, as a set. -/
def gSet : List Int → Nat
  | [] => 0
  | x :: r => (if (x != 0) = true then 1 else 0) + 2 * gSet r
theorem gSet_lt : ∀ xs : List Int, gSet xs < 2 ^ xs.length
  | [] => by simp [gSet]
  | x :: r => by
    have := gSet_lt r
    rw [gSet, List.length_cons, Nat.pow_succ]
    split <;> omega
theorem gSub_set : ∀ xs : List Int, gSub xs (gSet xs) = gOpen xs
  | [] => rfl
  | x :: r => by
    have ih := gSub_set r
    rw [gSet, gSub]
    unfold gOpen at *
    rw [List.filter_cons]
    by_cases hx : (x != 0) = true
    · rw [if_pos hx, if_pos hx, if_pos (by omega), show (1 + 2 * gSet r) / 2 = gSet r from by omega, ih]
    · rw [if_neg hx, if_neg hx, if_neg (by omega), show (0 + 2 * gSet r) / 2 = gSet r from by omega, ih]
theorem gOpen_sum : ∀ xs : List Int, sumL (gOpen xs) = sumL xs
  | [] => rfl
  | x :: r => by
    have ih := gOpen_sum r
    unfold gOpen at *
    rw [List.filter_cons]
    split
    · rw [sumL, sumL, ih]
    · rename_i h
      have : x = 0 := by simpa using h
      rw [sumL, ih, this]
      omega
theorem gPart_sum : ∀ (xs : List Int) (s : Nat), sumL (gPart xs s) = sumL (gSub xs s)
  | [], _ => rfl
  | x :: r, s => by
    have ih := gPart_sum r (s / 2)
    rw [gPart, gSub]
    split
    · rw [sumL, sumL, ih]
    · rw [sumL, ih]
      omega
theorem gPart_open : ∀ (xs : List Int) (s : Nat), s &&& gSet xs = s → gOpen (gPart xs s) = gSub xs s
  | [], _, _ => rfl
  | x :: r, s, h => by
    have hw := within_half h
    have hg : gSet (x :: r) / 2 = gSet r := by rw [gSet]; split <;> omega
    rw [hg] at hw
    have ih := gPart_open r (s / 2) hw.1
    have hm : gSet (x :: r) % 2 = if (x != 0) = true then 1 else 0 := by rw [gSet]; split <;> omega
    rw [gPart, gSub]
    unfold gOpen at *
    by_cases h1 : s % 2 = 1
    · rw [if_pos h1, if_pos h1, List.filter_cons]
      have hx : (x != 0) = true := by
        by_cases hx : (x != 0) = true
        · exact hx
        · rw [if_neg hx] at hm
          omega
      rw [if_pos hx, ih]
    · rw [if_neg h1, if_neg h1, List.filter_cons, if_neg (by decide), ih]
theorem gSub_nz : ∀ (xs : List Int) (s : Nat), s &&& gSet xs = s → ∀ y ∈ gSub xs s, y ≠ 0 := by
  intro xs s h y hy
  rw [← gPart_open xs s h] at hy
  have := (List.mem_filter.1 hy).2
  simpa using this
theorem gPart_mem : ∀ (xs : List Int) (s : Nat), ∀ y ∈ gPart xs s, y = 0 ∨ y ∈ xs
  | [], _, y, h => by simp [gPart] at h
  | x :: r, s, y, h => by
    rw [gPart] at h
    rcases List.mem_cons.1 h with rfl | h
    · split
      · exact .inr (by simp)
      · exact .inl rfl
    · rcases gPart_mem r (s / 2) y h with e | e
      · exact .inl e
      · exact .inr (by simp [e])
theorem gPart_rest : ∀ (xs : List Int) {p s : Nat}, p &&& s = p → ∀ i, (gPart xs s).getD i 0 = (gPart xs p).getD i 0 + (gPart xs (s - p)).getD i 0
  | [], p, s, _, i => by simp [gPart]
  | x :: r, p, s, h, i => by
    have hw := within_half h
    have hl := within_le h
    have hl2 := within_le hw.1
    have e : (s - p) / 2 = s / 2 - p / 2 := by omega
    rw [gPart, gPart, gPart, e]
    cases i with
    | succ i =>
      simp only [List.getD_cons_succ]
      exact gPart_rest r hw.1 i
    | zero =>
      simp only [List.getD_cons_zero]
      by_cases h1 : s % 2 = 1
      · by_cases h2 : p % 2 = 1
        · rw [if_pos h1, if_pos h2, if_neg (by omega)]
          omega
        · rw [if_pos h1, if_neg h2, if_pos (by omega)]
          omega
      · rw [if_neg h1, if_neg (by omega), if_neg (by omega)]
        rfl
theorem gPart_zero : ∀ (xs : List Int) (i : Nat), (gPart xs 0).getD i 0 = 0
  | [], i => by simp [gPart]
  | x :: r, 0 => by simp [gPart]
  | x :: r, i + 1 => by
    rw [gPart, Nat.zero_div]
    simp only [List.getD_cons_succ]
    exact gPart_zero r i
theorem gPart_set : ∀ (xs : List Int), gPart xs (gSet xs) = xs
  | [] => rfl
  | x :: r => by
    have hg : gSet (x :: r) / 2 = gSet r := by rw [gSet]; split <;> omega
    rw [gPart, hg, gPart_set r]
    congr 1
    by_cases hx : (x != 0) = true
    · rw [if_pos (by rw [gSet, if_pos hx]; omega)]
    · rw [if_neg (by rw [gSet, if_neg hx]; omega)]
      have : x = 0 := by simpa using hx
      exact this.symm
theorem gPart_sign : ∀ (xs : List Int) (s i : Nat), ((gPart xs s).getD i 0 < 0 → xs.getD i 0 < 0) ∧ (0 < (gPart xs s).getD i 0 → 0 < xs.getD i 0)
  | [], _, i => by simp [gPart]
  | x :: r, s, i + 1 => by
    rw [gPart]
    simp only [List.getD_cons_succ]
    exact gPart_sign r (s / 2) i
  | x :: r, s, 0 => by
    rw [gPart]
    simp only [List.getD_cons_zero]
    split
    · exact ⟨id, id⟩
    · exact ⟨fun h => absurd h (by omega), fun h => absurd h (by omega)⟩
end Go.Proofs.Ytgagfaajilbmmaa
