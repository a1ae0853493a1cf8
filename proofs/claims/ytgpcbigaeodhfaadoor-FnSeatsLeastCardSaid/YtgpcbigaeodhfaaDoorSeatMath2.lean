/- Tables of seats: no list has fewer than the least number, the first free table is a good one, and a quarrel more needs a table more at most.
   Conditions: none but those in each statement. -/
import Derived.Test.YtgpcbigaeodhfaaDoorSeatMath
namespace Go.Proofs.YtgpcbigaeodhfaaDoor
open Go.RowKit

theorem hasI_mem {xs : List Int} {x : Int} : hasI xs x = true ↔ x ∈ xs := by
  unfold hasI
  rw [List.any_eq_true]
  constructor
  · rintro ⟨y, hy, h⟩
    rw [beq_iff_eq] at h
    exact h ▸ hy
  · exact fun h => ⟨x, h, by simp⟩
theorem hasI_out {xs : List Int} {x : Int} : hasI xs x = false ↔ x ∉ xs := by
  rw [← hasI_mem]
  cases hasI xs x <;> simp

/-- Different numbers among those below M. -/
theorem many_ge (M : Nat) : ∀ (xs seen : List Int), (((List.range M).countP (fun t : Nat => hasI xs (t : Int) && !hasI seen (t : Int)) : Nat) : Int) ≤ manyGo seen xs
  | [], seen => by
    have : (List.range M).countP (fun t : Nat => hasI [] (t : Int) && !hasI seen (t : Int)) = 0 := by
      rw [List.countP_eq_zero]
      intro t _ h
      simp [hasI] at h
    rw [this]
    exact Int.le_refl 0
  | x :: r, seen => by
    have ih := many_ge M r (seen ++ [x])
    unfold manyGo
    cases hx : hasI seen x with
    | true =>
      have := count_le (l := List.range M) (f := fun t : Nat => hasI (x :: r) (t : Int) && !hasI seen (t : Int)) (g := fun t : Nat => hasI r (t : Int) && !hasI (seen ++ [x]) (t : Int)) (fun t _ h => by
        simp only [Bool.and_eq_true, Bool.not_eq_true', hasI_mem, hasI_out] at h ⊢
        have hxs := hasI_mem.1 hx
        have hne : (t : Int) ≠ x := fun e => h.2 (e ▸ hxs)
        refine ⟨?_, ?_⟩
        · rcases List.mem_cons.1 h.1 with h1 | h1
          · exact absurd h1 hne
          · exact h1
        · simp only [List.mem_append, List.mem_singleton, not_or]
          exact ⟨h.2, hne⟩)
      rw [if_pos rfl]
      omega
    | false =>
      have := count_one (x := x.toNat) (l := List.range M) (f := fun t : Nat => hasI (x :: r) (t : Int) && !hasI seen (t : Int)) (g := fun t : Nat => hasI r (t : Int) && !hasI (seen ++ [x]) (t : Int)) List.nodup_range (fun t _ h => by
        simp only [Bool.and_eq_true, Bool.not_eq_true', hasI_mem, hasI_out] at h ⊢
        by_cases hne : (t : Int) = x
        · exact .inr (by omega)
        · refine .inl ⟨?_, ?_⟩
          · rcases List.mem_cons.1 h.1 with h1 | h1
            · exact absurd h1 hne
            · exact h1
          · simp only [List.mem_append, List.mem_singleton, not_or]
            exact ⟨h.2, hne⟩)
      rw [if_neg (by simp)]
      omega
theorem many_le (M : Nat) : ∀ (xs seen : List Int), (∀ x ∈ xs, 0 ≤ x ∧ x < M) → manyGo seen xs ≤ (((List.range M).countP (fun t : Nat => !hasI seen (t : Int)) : Nat) : Int)
  | [], _, _ => by unfold manyGo; omega
  | x :: r, seen, h => by
    have ih := many_le M r (seen ++ [x]) (fun y hy => h y (List.mem_cons_of_mem _ hy))
    have hx := h x List.mem_cons_self
    unfold manyGo
    have hsub : ∀ t ∈ List.range M, (fun t : Nat => !hasI (seen ++ [x]) (t : Int)) t = true → (fun t : Nat => !hasI seen (t : Int)) t = true := fun t _ h1 => by
      simp only [Bool.not_eq_true', hasI_out, List.mem_append, List.mem_singleton, not_or] at h1 ⊢
      exact h1.1
    cases hs : hasI seen x with
    | true =>
      have := count_le hsub
      rw [if_pos rfl]
      omega
    | false =>
      have := count_lt (l := List.range M) (x := x.toNat) (f := fun t : Nat => !hasI seen (t : Int)) (g := fun t : Nat => !hasI (seen ++ [x]) (t : Int)) (List.mem_range.2 (by omega)) (by simp only [Int.toNat_of_nonneg hx.1, hs]; rfl) (by
        simp only [Int.toNat_of_nonneg hx.1, Bool.not_eq_false', hasI_mem]
        simp) hsub
      rw [if_neg (by simp)]
      omega

/-! ### lists of tables -/
theorem seats_at {g : Int} {q s : List Int} (h : seatsOkL g q s = true) : quarOk g q = true ∧ (s.length : Int) = g ∧ (∀ x ∈ s, 0 ≤ x ∧ x ≤ g - 1) ∧ ∀ a b, a < s.length → b < a → s.getD b 0 = s.getD a 0 → hasB (q.getD a 0) b = false := by
  unfold seatsOkL at h
  simp only [Bool.and_eq_true, decide_eq_true_eq] at h
  obtain ⟨h1, ⟨h2, h3⟩, h4⟩ := h
  refine ⟨h1, h2, fun x hx => ?_, fun a b ha hb he => ?_⟩
  · unfold rangeOk at h3
    rw [List.all_eq_true] at h3
    exact inR_iff.1 (h3 x hx)
  · rw [allN_iff] at h4
    have := h4 a ha
    unfold seatFine at this
    rw [allN_iff] at this
    have := this b hb
    unfold seatBad at this
    rw [he] at this
    simpa using this
def usedT (s : List Int) (x : Int) (t : Nat) : Bool := (List.range 6).any (fun b => hasB x b && (s.getD b 0 == (t : Int)))
theorem usedT_iff {s : List Int} {x : Int} {t : Nat} : usedT s x t = true ↔ ∃ b, b < 6 ∧ hasB x b = true ∧ s.getD b 0 = (t : Int) := by
  unfold usedT
  rw [List.any_eq_true]
  constructor
  · rintro ⟨b, hb, h⟩
    rw [Bool.and_eq_true, beq_iff_eq] at h
    exact ⟨b, List.mem_range.1 hb, h.1, h.2⟩
  · rintro ⟨b, hb, h1, h2⟩
    exact ⟨b, List.mem_range.2 hb, by rw [Bool.and_eq_true, beq_iff_eq]; exact ⟨h1, h2⟩⟩
theorem tb_used {g : Int} {q s : List Int} (h : seatsOkL g q s = true) : ∀ X : Nat, X < 2 ^ g.toNat → tb q (2 ^ g.toNat) X ≤ (((List.range 6).countP (usedT s X) : Nat) : Int) := by
  obtain ⟨hQ, hsl, hsr, hsf⟩ := seats_at h
  have hg := quarOk_g hQ
  have hp := pow64 hg.1 hg.2.1
  have hfp := full_pow (g := g)
  intro X
  induction X using Nat.strongRecOn with
  | ind X ih =>
    intro hX
    rcases Nat.eq_zero_or_pos X with h0 | h0
    · subst h0
      have a := tb_sz hQ (x := ((0 : Nat) : Int)) (by omega) (by omega)
      have : sz ((0 : Nat) : Int) = 0 := by decide
      omega
    · obtain ⟨b, hb6, hb⟩ := someB (x := (X : Int)) (by omega) (by omega) (by omega)
      have hlow : ∀ k : Nat, k < 6 → hasB (X : Int) k = true → k < s.length := fun k hk hh => by have := full_hasB hg.1 hg.2.1 (show 0 ≤ (X : Int) by omega) (by omega) hk hh; omega
      have hbl := hlow b hb6 hb
      have hsb := hsr (s.getD b 0) (by rw [List.getD_eq_getElem?_getD, List.getElem?_eq_getElem hbl]; exact List.getElem_mem hbl)
      obtain ⟨T, hT⟩ : ∃ T : Nat, s.getD b 0 = T := ⟨(s.getD b 0).toNat, by omega⟩
      obtain ⟨p, p0, p1, hpb⟩ := maskB (fun k => hasB (X : Int) k && (s.getD k 0 == (T : Int)))
      have hpp : 0 < p := posB p0 hb6 (by rw [hpb b hb6, hb, hT]; simp)
      have hsub : (meetI p (X : Int) == p) = true := (subB (by omega) (by omega) p0 p1).2 (fun k hk hh => by rw [hpb k hk, Bool.and_eq_true] at hh; exact hh.1)
      have hap : apartS p q = true := (apart_has p0 p1 (quar_all hQ)).2 (fun i j hi hi6 hj6 a c => by
        rw [hpb i hi6, Bool.and_eq_true, beq_iff_eq] at a
        rw [hpb j hj6, Bool.and_eq_true, beq_iff_eq] at c
        have hj : j < q.length := by have := hlow j hj6 c.1; omega
        rcases Nat.lt_trichotomy j i with e | e | e
        · exact hsf i j (by omega) e (by rw [a.2, c.2])
        · subst e; exact quarOk_self hQ hi
        · have := hsf j i (by omega) e (by rw [a.2, c.2])
          cases hh : hasB (q.getD i 0) j with
          | false => rfl
          | true => rw [quarOk_sym hQ hi hj hh] at this; cases this)
      have hd := subD (x := (X : Int)) (by omega) (by omega) p0 p1 hsub
      have hdr := dropB (x := (X : Int)) (y := p) (by omega) (by omega) p0 p1
      have h1 := tb_le (q := q) (N := 2 ^ g.toNat) (x := (X : Int)) (by omega) (by omega) hp.1 hpp p1 hsub hap
      have h2 := ih (X - p.toNat) (by omega) (by omega)
      rw [show ((X - p.toNat : Nat) : Int) = (X : Int) - p by omega] at h2
      have h3 := count_lt (l := List.range 6) (x := T) (f := usedT s (X : Int)) (g := usedT s ((X : Int) - p)) (List.mem_range.2 (by omega)) (usedT_iff.2 ⟨b, hb6, hb, hT⟩) (by
        cases hh : usedT s ((X : Int) - p) T with
        | false => rfl
        | true =>
          obtain ⟨k, hk, h4, h5⟩ := usedT_iff.1 hh
          rw [hd.1, hdr.2 k hk, Bool.and_eq_true, hpb k hk, h5] at h4
          simp [h4.1] at h4) (fun t _ hh => by
        obtain ⟨k, hk, h4, h5⟩ := usedT_iff.1 hh
        rw [hd.1, hdr.2 k hk, Bool.and_eq_true] at h4
        exact usedT_iff.2 ⟨k, hk, h4.1, h5⟩)
      omega

/-- No list has fewer tables. -/
theorem least_many {g : Int} {q s : List Int} (h : seatsOkL g q s = true) : seatsLeastL g q ≤ manyGo [] s := by
  obtain ⟨hQ, hsl, hsr, hsf⟩ := seats_at h
  have hg := quarOk_g hQ
  have hf := full_range hg.1 hg.2.1
  have hfp := full_pow (g := g)
  have a := tb_used h (full g).toNat (by omega)
  rw [Int.toNat_of_nonneg hf.1] at a
  have b := many_ge 6 s []
  have c := count_le (l := List.range 6) (f := usedT s (full g)) (g := fun t : Nat => hasI s (t : Int) && !hasI [] (t : Int)) (fun t _ hh => by
    obtain ⟨k, hk, h4, h5⟩ := usedT_iff.1 hh
    have := full_hasB hg.1 hg.2.1 hf.1 (Int.le_refl _) hk h4
    have hkl : k < s.length := by omega
    rw [Bool.and_eq_true, hasI_mem, ← h5, List.getD_eq_getElem?_getD, List.getElem?_eq_getElem hkl]
    exact ⟨List.getElem_mem hkl, by simp [hasI]⟩)
  rw [tb_full hQ]
  omega

/-! ### the first free table -/
theorem first_false : ∀ (a : Nat) (P : Nat → Bool), P a = false → ∃ m, m ≤ a ∧ (∀ i, i < m → P i = true) ∧ P m = false
  | 0, P, h => ⟨0, Nat.le_refl _, fun i hi => absurd hi (by omega), h⟩
  | a + 1, P, h => by
    cases h0 : P 0 with
    | false => exact ⟨0, by omega, fun i hi => absurd hi (by omega), h0⟩
    | true =>
      obtain ⟨m, h1, h2, h3⟩ := first_false a (fun i => P (i + 1)) h
      refine ⟨m + 1, by omega, fun i hi => ?_, h3⟩
      rcases Nat.eq_zero_or_pos i with e | e
      · subst e; exact h0
      · have := h2 (i - 1) (by omega)
        rwa [show i - 1 + 1 = i by omega] at this
theorem seatsTo_stay (q : List Int) {a b : Nat} (h : b < a) : ∀ d : Nat, (seatsTo q (a + d)).getD b 0 = (seatsTo q a).getD b 0
  | 0 => rfl
  | d + 1 => by rw [← Nat.add_assoc, seatsTo_getD_lt q (show b < a + d by omega), seatsTo_stay q h d]
theorem tableOf_free (q : List Int) (u : Int) (a : Nat) : ∃ m : Nat, m ≤ a ∧ tableOf u (seatsTo q a) = m ∧ (∀ i : Nat, i < m → clash u (seatsTo q a) i = true) ∧ clash u (seatsTo q a) m = false := by
  obtain ⟨m, h1, h2, h3⟩ := first_false a (fun i => clash u (seatsTo q a) (i : Int)) (clash_end q u a)
  exact ⟨m, h1, tableOf_of h1 h2 h3, h2, h3⟩
theorem seat_is (q : List Int) {n a : Nat} (h : a < n) : (seatsTo q n).getD a 0 = tableOf (q.getD a 0) (seatsTo q a) := by
  obtain ⟨d, rfl⟩ : ∃ d, n = a + 1 + d := ⟨n - (a + 1), by omega⟩
  rw [seatsTo_stay q (show a < a + 1 by omega) d, seatsTo_getD_eq]
theorem first_ok {g : Int} {q : List Int} (hQ : quarOk g q = true) : seatsOkL g q (seatsFirstL g q) = true := by
  have hg := quarOk_g hQ
  unfold seatsFirstL
  rw [if_pos hQ]
  unfold seatsOkL
  rw [hQ, seatsTo_len, decide_eq_true hg.2.2]
  have hr : rangeOk (g - 1) (seatsTo q q.length) = true := by
    unfold rangeOk
    rw [List.all_eq_true]
    intro x hx
    obtain ⟨i, hi, rfl⟩ := List.getElem_of_mem hx
    rw [seatsTo_len] at hi
    have := seatsTo_at q q.length i hi
    rw [show (seatsTo q q.length).getD i 0 = (seatsTo q q.length)[i] from by simp [seatsTo_len, hi]] at this
    rw [inR_iff]
    omega
  rw [hr]
  simp only [Bool.true_and]
  rw [allN_iff]
  intro a ha
  unfold seatFine
  rw [allN_iff]
  intro b hb
  unfold seatBad
  obtain ⟨m, h1, h2, -, h4⟩ := tableOf_free q (q.getD a 0) a
  cases hh : hasB (q.getD a 0) b with
  | false => simp
  | true =>
    cases he : ((seatsTo q q.length).getD b 0 == (seatsTo q q.length).getD a 0) with
    | false => rfl
    | true =>
      rw [beq_iff_eq, seat_is q ha, h2] at he
      exfalso
      have : clash (q.getD a 0) (seatsTo q a) m = true := clash_iff.2 ⟨b, by rw [seatsTo_len]; exact hb, by
        rw [← he]
        obtain ⟨d, hd⟩ : ∃ d, q.length = a + d := ⟨q.length - a, by omega⟩
        rw [hd, seatsTo_stay q hb d], hh⟩
      rw [h4] at this
      cases this
theorem table_few {g : Int} {q : List Int} (hQ : quarOk g q = true) {a : Nat} (ha : a < q.length) : (seatsTo q q.length).getD a 0 ≤ sz (q.getD a 0) := by
  have hg := quarOk_g hQ
  have hq := quarOk_getD hQ a
  obtain ⟨m, h1, h2, h3, -⟩ := tableOf_free q (q.getD a 0) a
  rw [seat_is q ha, h2, szC hq.1 hq.2.2]
  have key : ∀ j : Nat, j ≤ m → j ≤ (List.range 6).countP (fun b => hasB (q.getD a 0) b && decide ((seatsTo q a).getD b 0 < (j : Int))) := by
    intro j
    induction j with
    | zero => intro _; exact Nat.zero_le _
    | succ j ih =>
      intro hj
      have := ih (by omega)
      obtain ⟨b, hb, hc, hd⟩ := clash_iff.1 (h3 j (by omega))
      rw [seatsTo_len] at hb
      have h6 := count_lt (l := List.range 6) (x := b) (f := fun b => hasB (q.getD a 0) b && decide ((seatsTo q a).getD b 0 < ((j + 1 : Nat) : Int))) (g := fun b => hasB (q.getD a 0) b && decide ((seatsTo q a).getD b 0 < (j : Int))) (List.mem_range.2 (by omega)) (by simp only [hd, hc, Bool.true_and, decide_eq_true_eq]; omega) (by simp only [hd, hc, Bool.true_and, decide_eq_false_iff_not]; omega) (fun t _ h => by
        simp only [Bool.and_eq_true, decide_eq_true_eq] at h ⊢
        exact ⟨h.1, by omega⟩)
      omega
  have h7 := key m (Nat.le_refl _)
  have h8 := count_le (l := List.range 6) (f := fun b => hasB (q.getD a 0) b && decide ((seatsTo q a).getD b 0 < (m : Int))) (g := fun k => hasB (q.getD a 0) k) (fun t _ h => by rw [Bool.and_eq_true] at h; exact h.1)
  omega
/-- At most one table more than anybody has quarrels. -/
theorem first_few {g : Int} {q : List Int} (hQ : quarOk g q = true) {M : Nat} (hM : ∀ a, a < q.length → sz (q.getD a 0) ≤ M) : manyGo [] (seatsFirstL g q) ≤ (M : Int) + 1 := by
  unfold seatsFirstL
  rw [if_pos hQ]
  have := many_le (M + 1) (seatsTo q q.length) [] (fun x hx => by
    obtain ⟨i, hi, rfl⟩ := List.getElem_of_mem hx
    rw [seatsTo_len] at hi
    have a := seatsTo_at q q.length i hi
    have b := table_few hQ hi
    have c := hM i hi
    rw [show (seatsTo q q.length).getD i 0 = (seatsTo q q.length)[i] from by simp [seatsTo_len, hi]] at a b
    omega)
  have h2 := List.countP_le_length (p := fun t : Nat => !hasI [] (t : Int)) (l := List.range (M + 1))
  rw [List.length_range] at h2
  omega

/-! ### a quarrel less -/
/-- q2 has the quarrels of q, but that of a and b. -/
structure Less (g : Int) (q q2 : List Int) (a b : Nat) : Prop where
  ok1 : quarOk g q = true
  ok2 : quarOk g q2 = true
  len : q2.length = q.length
  al : a < q.length
  bl : b < q.length
  ne : a ≠ b
  bits : ∀ i j : Nat, i < q.length → j < 6 → hasB (q2.getD i 0) j = (hasB (q.getD i 0) j && !((i == a && j == b) || (i == b && j == a)))
theorem Less.apart {g : Int} {q q2 : List Int} {a b : Nat} (h : Less g q q2 a b) {p : Int} (p0 : 0 ≤ p) (p1 : p < 64) (hp : apartS p q = true) : apartS p q2 = true := by
  rw [apart_has p0 p1 (quar_all h.ok2)]
  intro i j hi hi6 hj6 x y
  rw [h.len] at hi
  rw [h.bits i j hi hj6, (apart_has p0 p1 (quar_all h.ok1)).1 hp i j hi hi6 hj6 x y]
  rfl
theorem Less.back {g : Int} {q q2 : List Int} {a b : Nat} (h : Less g q q2 a b) {p : Int} (p0 : 0 ≤ p) (p1 : p < 64) (hp : apartS p q2 = true) (hab : ¬ (hasB p a = true ∧ hasB p b = true)) : apartS p q = true := by
  rw [apart_has p0 p1 (quar_all h.ok1)]
  intro i j hi hi6 hj6 x y
  have := (apart_has p0 p1 (quar_all h.ok2)).1 hp i j (by rw [h.len]; exact hi) hi6 hj6 x y
  rw [h.bits i j hi hj6] at this
  cases hh : hasB (q.getD i 0) j with
  | false => rfl
  | true =>
    rw [hh, Bool.true_and, Bool.not_eq_false', Bool.or_eq_true, Bool.and_eq_true, Bool.and_eq_true, beq_iff_eq, beq_iff_eq, beq_iff_eq, beq_iff_eq] at this
    exfalso
    rcases this with ⟨rfl, rfl⟩ | ⟨rfl, rfl⟩
    · exact hab ⟨x, y⟩
    · exact hab ⟨y, x⟩
theorem Less.le {g : Int} {q q2 : List Int} {a b : Nat} (h : Less g q q2 a b) : ∀ X : Nat, X < 2 ^ g.toNat → tb q2 (2 ^ g.toNat) X ≤ tb q (2 ^ g.toNat) X := by
  have hg := quarOk_g h.ok1
  have hp := pow64 hg.1 hg.2.1
  intro X
  induction X using Nat.strongRecOn with
  | ind X ih =>
    intro hX
    rcases tb_cases (q := q) (N := 2 ^ g.toNat) (x := (X : Int)) (by omega) (by omega) hp.1 with h1 | ⟨p, h1, h2, h3, h4, h5⟩
    · rw [h1]; exact tb_sz h.ok2 (by omega) (by omega)
    · have h6 := tb_le (q := q2) (N := 2 ^ g.toNat) (x := (X : Int)) (by omega) (by omega) hp.1 h1 (by omega) h3 (h.apart (by omega) (by omega) h4)
      have h7 := ih (X - p.toNat) (by omega) (by omega)
      rw [show ((X - p.toNat : Nat) : Int) = (X : Int) - p by omega] at h7
      omega
theorem Less.ge {g : Int} {q q2 : List Int} {a b : Nat} (h : Less g q q2 a b) : ∀ X : Nat, X < 2 ^ g.toNat → tb q (2 ^ g.toNat) X ≤ tb q2 (2 ^ g.toNat) X + (if hasB (X : Int) a && hasB (X : Int) b then 1 else 0) := by
  have hg := quarOk_g h.ok1
  have hp := pow64 hg.1 hg.2.1
  have ha6 : a < 6 := by have := h.al; omega
  have hb6 : b < 6 := by have := h.bl; omega
  intro X
  induction X using Nat.strongRecOn with
  | ind X ih =>
    intro hX
    rcases tb_cases (q := q2) (N := 2 ^ g.toNat) (x := (X : Int)) (by omega) (by omega) hp.1 with h1 | ⟨p, h1, h2, h3, h4, h5⟩
    · have := tb_sz h.ok1 (x := (X : Int)) (by omega) (by omega)
      split <;> omega
    · have hd := subD (x := (X : Int)) (by omega) (by omega) (by omega) (by omega) h3
      have hdr := dropB (x := (X : Int)) (y := p) (by omega) (by omega) (by omega) (by omega)
      have hsub := (subB (x := (X : Int)) (p := p) (by omega) (by omega) (by omega) (by omega)).1 h3
      have h7 := ih (X - p.toNat) (by omega) (by omega)
      rw [show ((X - p.toNat : Nat) : Int) = (X : Int) - p by omega] at h7
      rw [hd.1, hdr.2 a ha6, hdr.2 b hb6, ← hd.1] at h7
      by_cases hab : hasB p a = true ∧ hasB p b = true
      · rw [hab.1, hab.2] at h7
        simp only [Bool.not_true, Bool.and_false, Bool.false_eq_true, if_false] at h7
        rw [hsub a ha6 hab.1, hsub b hb6 hab.2, if_pos (by rfl)]
        -- the two of them apart
        have hpa := pow_range a ha6
        have s1 : (meetI ((2 : Int) ^ a) (X : Int) == (2 : Int) ^ a) = true := (subB (by omega) (by omega) (by omega) hpa.2).2 (fun k hk hh => by
          rw [hasB_pow ha6 hk, beq_iff_eq] at hh
          subst hh
          exact hsub a hk hab.1)
        have e1 := tb_le (q := q) (N := 2 ^ g.toNat) (x := (X : Int)) (by omega) (by omega) hp.1 (by omega) hpa.2 s1 (apart_one h.ok1 ha6)
        have hd1 := subD (x := (X : Int)) (by omega) (by omega) (by omega) hpa.2 s1
        have hdr1 := dropB (x := (X : Int)) (y := (2 : Int) ^ a) (by omega) (by omega) (by omega) hpa.2
        obtain ⟨p2, r0, r1, hp2⟩ := maskB (fun k => hasB p k && !(k == a))
        have hpp2 : 0 < p2 := posB r0 hb6 (by rw [hp2 b hb6, hab.2]; simp; exact fun e => h.ne e.symm)
        have s2 : (meetI p2 ((X : Int) - 2 ^ a) == p2) = true := by
          rw [hd1.1, subB hdr1.1.1 hdr1.1.2 r0 r1]
          intro k hk hh
          rw [hp2 k hk, Bool.and_eq_true, Bool.not_eq_true', beq_eq_false_iff_ne] at hh
          rw [hdr1.2 k hk, hsub k hk hh.1, hasB_pow ha6 hk]
          simp
          exact fun e => hh.2 e.symm
        have ap2 : apartS p2 q = true := h.back r0 r1 ((apart_has r0 r1 (quar_all h.ok2)).2 (fun i j hi hi6 hj6 x y => by
          rw [hp2 i hi6, Bool.and_eq_true] at x
          rw [hp2 j hj6, Bool.and_eq_true] at y
          exact (apart_has (by omega) (by omega) (quar_all h.ok2)).1 h4 i j hi hi6 hj6 x.1 y.1)) (fun hh => by
          rw [hp2 a ha6] at hh
          simp at hh)
        have e2 := tb_le (q := q) (N := 2 ^ g.toNat) (x := (X : Int) - 2 ^ a) (by omega) (by omega) hp.1 hpp2 r1 s2 ap2
        have hd2 := subD (x := (X : Int) - 2 ^ a) (by omega) (by omega) r0 r1 s2
        have hdr2 := dropB (x := (X : Int) - 2 ^ a) (y := p2) (by omega) (by omega) r0 r1
        have e3 : (X : Int) - 2 ^ a - p2 = (X : Int) - p := by
          rw [hd2.1, hd.1]
          refine hasB_ext hdr2.1.1 hdr2.1.2 hdr.1.1 hdr.1.2 (fun k hk => ?_)
          rw [hdr2.2 k hk, hd1.1, hdr1.2 k hk, hdr.2 k hk, hp2 k hk, hasB_pow ha6 hk]
          by_cases e : a = k
          · subst e
            rw [hab.1]
            simp
          · have e' : (k == a) = false := by simp; exact fun h => e h.symm
            have e'' : (a == k) = false := by simp; exact e
            rw [e', e'']
            simp
        rw [e3] at e2
        omega
      · have h6 := tb_le (q := q) (N := 2 ^ g.toNat) (x := (X : Int)) (by omega) (by omega) hp.1 h1 (by omega) h3 (h.back (by omega) (by omega) h4 hab)
        have h8 : (if (hasB (X : Int) a && !hasB p a) && (hasB (X : Int) b && !hasB p b) then (1 : Int) else 0) ≤ (if hasB (X : Int) a && hasB (X : Int) b then 1 else 0) := by
          cases hasB (X : Int) a <;> cases hasB (X : Int) b <;> cases hasB p a <;> cases hasB p b <;> simp
        omega
/-- A quarrel more needs a table more at most. -/
theorem least_less {g : Int} {q q2 : List Int} {a b : Nat} (h : Less g q q2 a b) : seatsLeastL g q2 = seatsLeastL g q ∨ seatsLeastL g q2 = seatsLeastL g q - 1 := by
  have hg := quarOk_g h.ok1
  have hf := full_range hg.1 hg.2.1
  have hfp := full_pow (g := g)
  rw [tb_full h.ok1, tb_full h.ok2]
  have a1 := h.le (full g).toNat (by omega)
  have a2 := h.ge (full g).toNat (by omega)
  rw [Int.toNat_of_nonneg hf.1] at a1 a2
  split at a2 <;> omega
theorem least_none {n : Nat} (hn : n ≤ 6) : seatsLeastL n (tab n (fun _ => 0)) = min (n : Int) 1 := by
  rcases (by omega : n = 0 ∨ n = 1 ∨ n = 2 ∨ n = 3 ∨ n = 4 ∨ n = 5 ∨ n = 6) with rfl | rfl | rfl | rfl | rfl | rfl | rfl <;> decide +kernel
end Go.Proofs.YtgpcbigaeodhfaaDoor
