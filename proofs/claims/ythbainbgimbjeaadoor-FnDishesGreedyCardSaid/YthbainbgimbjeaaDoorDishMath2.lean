/- What the laws say of the fewest dishes, of the dish for the most first, and of guests who are apart; plain mathematics.
   Conditions: valid menus. -/
import Derived.Test.YthbainbgimbjeaaDoorDishMath
import Derived.Test.YthbainbgimbjeaaDoorSeatMath
namespace Go.Proofs.YthbainbgimbjeaaDoor
open Go.RowKit

/-- Somebody eats one of the dishes. -/
def fedAny (d : Int) (k : Nat) : Nat → List Int → Bool
  | _, [] => false
  | j, x :: r => (hasB d j && hasB x k) || fedAny d k (j + 1) r
theorem fed_has {d : Int} {k : Nat} : ∀ (m : List Int) (j : Nat) (out : Int), (∀ x ∈ m, 0 ≤ x ∧ x < 64) → 0 ≤ out → out < 64 → hasB (fedGo d j m out) k = (hasB out k || fedAny d k j m)
  | [], j, out, _, _, _ => by simp [fedGo, fedAny]
  | x :: r, j, out, hm, h0, h1 => by
    have hx := hm x (by simp)
    have ho := orI_lt h1 hx.2
    rw [fedGo, fedAny]
    cases hb : hasB d j with
    | true =>
      rw [if_pos rfl, fed_has r (j + 1) _ (fun y hy => hm y (by simp [hy])) ho.1 ho.2, hasB_orI k h0 hx.1]
      cases hasB out k <;> cases hasB x k <;> rfl
    | false =>
      rw [if_neg (by decide), fed_has r (j + 1) _ (fun y hy => hm y (by simp [hy])) h0 h1]
      simp
theorem fedAny_iff {d : Int} {k : Nat} : ∀ {m : List Int} {j : Nat}, fedAny d k j m = true ↔ ∃ i x, m[i]? = some x ∧ hasB d (j + i) = true ∧ hasB x k = true
  | [], j => by simp [fedAny]
  | y :: r, j => by
    rw [fedAny, Bool.or_eq_true, Bool.and_eq_true, fedAny_iff (m := r)]
    constructor
    · rintro (⟨a, b⟩ | ⟨i, x, a, b, c⟩)
      · exact ⟨0, y, rfl, a, b⟩
      · exact ⟨i + 1, x, by simpa using a, by rw [show j + (i + 1) = j + 1 + i from by omega]; exact b, c⟩
    · rintro ⟨i, x, a, b, c⟩
      cases i with
      | zero =>
        obtain rfl : y = x := by simpa using a
        exact .inl ⟨b, c⟩
      | succ i => exact .inr ⟨i, x, by simpa using a, by rw [show j + 1 + i = j + (i + 1) from by omega]; exact b, c⟩
theorem menu64 {g : Int} {m : List Int} (hM : menuOk g m = true) : ∀ x ∈ m, 0 ≤ x ∧ x < 64 := fun x hx => by have := menuOk_at hM hx; omega
theorem hasB_zero (k : Nat) : hasB 0 k = false := by unfold hasB; simp
theorem hasB_full {g : Int} (g0 : 0 ≤ g) (g1 : g ≤ 6) {k : Nat} (hk : k < 6) : hasB (full g) k = decide (k < g.toNat) := by
  have := hasB_full_all ⟨g.toNat, by omega⟩ ⟨k, hk⟩
  simp only [Int.toNat_of_nonneg g0] at this
  exact this
/-- Dishes feed all guests where each of them eats one. -/
theorem feeds_iff {g d : Int} {m : List Int} (hM : menuOk g m = true) (h0 : 0 ≤ d) (h1 : d ≤ full m.length) : feedsL g m d = true ↔ ∀ k, k < 6 → k < g.toNat → ∃ i x, m[i]? = some x ∧ hasB d i = true ∧ hasB x k = true := by
  have hg := menuOk_g hM
  have hfr := full_range hg.1 hg.2
  have hin : inR d 0 (full m.length) = true := inR_iff.2 ⟨h0, h1⟩
  have hfed : fedL g m d = fedGo d 0 m 0 := by unfold fedL; rw [hM, hin]; rfl
  have hr := fedGo_range (d := d) m 0 0 (menu64 hM) (by omega) (by omega)
  have hh : ∀ k, hasB (fedGo d 0 m 0) k = fedAny d k 0 m := fun k => by rw [fed_has m 0 0 (menu64 hM) (by omega) (by omega), hasB_zero, Bool.false_or]
  unfold feedsL
  rw [hfed, decide_eq_true hr.1, Bool.true_and]
  simp only [beq_iff_eq]
  constructor
  · intro h k hk hkg
    have := hh k
    rw [h, hasB_full hg.1 hg.2 hk, decide_eq_true hkg] at this
    obtain ⟨i, x, a, b, c⟩ := fedAny_iff.1 this.symm
    exact ⟨i, x, a, by simpa using b, c⟩
  · intro h
    refine hasB_ext hr.1 hr.2 hfr.1 hfr.2 (fun k hk => ?_)
    rw [hh k, hasB_full hg.1 hg.2 hk]
    by_cases hkg : k < g.toNat
    · rw [decide_eq_true hkg]
      obtain ⟨i, x, a, b, c⟩ := h k hk hkg
      exact fedAny_iff.2 ⟨i, x, a, by simpa using b, c⟩
    · rw [decide_eq_false hkg]
      cases hx : fedAny d k 0 m with
      | false => rfl
      | true =>
        obtain ⟨i, x, a, b, c⟩ := fedAny_iff.1 hx
        have hmx := menuOk_at hM (List.mem_of_getElem? a)
        have := full_hasB hg.1 hg.2 hmx.1 hmx.2.1 hk c
        omega
theorem feeds_rng {g d : Int} {m : List Int} (h : feedsL g m d = true) : menuOk g m = true ∧ 0 ≤ d ∧ d ≤ full m.length := by
  unfold feedsL at h
  rw [Bool.and_eq_true] at h
  have h1 := of_decide_eq_true h.1
  unfold fedL at h1
  split at h1
  · rename_i hc
    rw [Bool.and_eq_true] at hc
    exact ⟨hc.1, inR_iff.1 hc.2⟩
  · omega
theorem fullN_len {n : Nat} (hn : n ≤ 6) : full n = ((2 ^ n : Nat) : Int) - 1 ∧ full n < 64 ∧ 0 ≤ full n := by
  have hp := pow_le64 hn
  have hc := pow_cast n
  unfold full
  rw [Int.toNat_natCast]
  omega
theorem full_bit : ∀ (n : Fin 7) (k : Fin 6), k.val < n.val → hasB (full (n.val : Int)) k.val = true := by decide +kernel
/-- What the least is: it feeds all, and none that does has fewer. -/
theorem least_said {g d : Int} {m : List Int} (h : feedsL g m d = true) : 0 ≤ dishesLeastL g m ∧ feedsL g m (dishesLeastL g m) = true ∧ sz (dishesLeastL g m) ≤ sz d ∧ dishesLeastL g m < 64 := by
  obtain ⟨hM, d0, d1⟩ := feeds_rng h
  have hl := menuOk_len hM
  have hf := fullN_len hl
  have hp := pow_le64 hl
  have hc := pow_cast m.length
  have e : dishesLeastL g m = leastTo g m (2 ^ m.length) := by unfold dishesLeastL; rw [if_pos hM]
  rw [e]
  rcases leastTo_spec g m (2 ^ m.length) (by omega) with ⟨a, b⟩ | ⟨x, a, b, c, k⟩
  · have := b d.toNat (by omega)
    rw [Int.toNat_of_nonneg d0, h] at this
    cases this
  · rw [b]
    have hk := k d.toNat (by omega) (by rw [Int.toNat_of_nonneg d0]; exact h)
    rw [Int.toNat_of_nonneg d0] at hk
    refine ⟨by omega, c, ?_, by omega⟩
    unfold keyD at hk
    generalize sz (x : Int) = s1 at *
    generalize sz d = s2 at *
    omega
theorem least_none {g : Int} {m : List Int} (h : dishesLeastL g m < 0) : dishesLeastL g m = -1 ∧ feedsL g m (full m.length) = false := by
  refine ⟨?_, ?_⟩
  · unfold dishesLeastL at h ⊢
    split at h
    · rename_i hM
      rw [if_pos hM]
      have hl := menuOk_len hM
      have hp := pow_le64 hl
      have hc := pow_cast m.length
      rcases leastTo_spec g m (2 ^ m.length) (by omega) with ⟨a, b⟩ | ⟨x, a, b, c, k⟩
      · exact a
      · rw [b] at h; omega
    · rename_i hM
      rw [if_neg hM]
  · cases hx : feedsL g m (full m.length) with
    | false => rfl
    | true => have := (least_said hx).1; omega
theorem least_feeds {g : Int} {m : List Int} (h : 0 ≤ dishesLeastL g m) : feedsL g m (dishesLeastL g m) = true ∧ menuOk g m = true := by
  unfold dishesLeastL at h ⊢
  split at h
  · rename_i hM
    rw [if_pos hM]
    have hl := menuOk_len hM
    have hp := pow_le64 hl
    have hc := pow_cast m.length
    rcases leastTo_spec g m (2 ^ m.length) (by omega) with ⟨a, b⟩ | ⟨x, a, b, c, k⟩
    · rw [a] at h; omega
    · rw [b]; exact ⟨c, hM⟩
  · omega
theorem feeds_all {g d : Int} {m : List Int} (h : feedsL g m d = true) : feedsL g m (full m.length) = true := by
  obtain ⟨hM, d0, d1⟩ := feeds_rng h
  have hl := menuOk_len hM
  have hf := fullN_len hl
  refine (feeds_iff hM hf.2.2 (Int.le_refl _)).2 (fun k hk hkg => ?_)
  obtain ⟨i, x, a, b, c⟩ := (feeds_iff hM d0 d1).1 h k hk hkg
  have hi := (List.getElem?_eq_some_iff.1 a).1
  exact ⟨i, x, a, full_bit ⟨m.length, by omega⟩ ⟨i, by omega⟩ hi, c⟩
/-- Without any one of them it does not feed all. -/
theorem least_cut {g : Int} {m : List Int} (h : 0 ≤ dishesLeastL g m) {k : Nat} (hk : k < 6) (hb : hasB (dishesLeastL g m) k = true) : feedsL g m (dishesLeastL g m - 2 ^ k) = false := by
  obtain ⟨hF, hM⟩ := least_feeds h
  have hS := least_said hF
  cases hx : feedsL g m (dishesLeastL g m - 2 ^ k) with
  | false => rfl
  | true =>
    have h1 := (least_said hx).2.2.1
    rw [(one_out h hS.2.2.2 hk hb).2] at h1
    generalize sz (dishesLeastL g m) = s at *
    omega

/-- Guests who are apart need a dish each. -/
theorem apart_sharers {g s : Int} {m : List Int} (hM : menuOk g m = true) (h0 : 0 ≤ s) (h1 : s ≤ full g) (ha : apartS s (sharersL g m) = true) : ∀ i j : Nat, i < 6 → j < 6 → hasB s i = true → hasB s j = true → i ≠ j → eatsBoth m i j = false := by
  intro i j hi hj hsi hsj hne
  have hg := menuOk_g hM
  have hfr := full_range hg.1 hg.2
  have hlen : (sharersL g m).length = g.toNat := by unfold sharersL; rw [tab_len]
  have hig := full_hasB hg.1 hg.2 h0 h1 hi hsi
  have hq : ∀ x ∈ sharersL g m, 0 ≤ x ∧ x < 64 := fun x hx => by
    unfold sharersL at hx
    obtain ⟨a, ha, rfl⟩ := List.mem_map.1 hx
    have := List.mem_range.1 ha
    exact shGo_range (by omega) m 0 (menu64 hM) (by omega) (by omega)
  have := (apart_has h0 (by omega) hq).1 ha i j (by rw [hlen]; omega) hi hj hsi hsj
  have hcell : (sharersL g m).getD i 0 = shGo i m 0 := by
    unfold sharersL
    rw [List.getD_eq_getElem?_getD, tab_at (by omega)]
    rfl
  rw [hcell, shGo_has hi hj m 0 (menu64 hM) (by omega) (by omega), hasB_zero, Bool.false_or] at this
  rw [beq_false_of_ne hne, Bool.not_false, Bool.and_true] at this
  exact this
def servedBy (s d : Int) (m : List Int) (n k : Nat) : Bool := hasB s k && (List.range n).any (fun j => hasB d j && hasB (m.getD j 0) k)
theorem served_succ (s d : Int) (m : List Int) (n k : Nat) : servedBy s d m (n + 1) k = (servedBy s d m n k || (hasB s k && (hasB d n && hasB (m.getD n 0) k))) := by
  unfold servedBy
  rw [List.range_succ, List.any_append]
  simp only [List.any_cons, List.any_nil, Bool.or_false]
  cases hasB s k <;> simp
theorem served_count {s d : Int} {m : List Int} (ha : ∀ i j : Nat, i < 6 → j < 6 → hasB s i = true → hasB s j = true → i ≠ j → eatsBoth m i j = false) : ∀ n, (List.range 6).countP (servedBy s d m n) ≤ (List.range n).countP (fun j => hasB d j)
  | 0 => by
    have : ∀ k, servedBy s d m 0 k = false := fun k => by simp [servedBy]
    rw [List.countP_eq_zero.2 (fun k _ => by rw [this k]; simp)]
    exact Nat.zero_le _
  | n + 1 => by
    have ih := served_count (d := d) ha n
    have hsp : (List.range (n + 1)).countP (fun j => hasB d j) = (List.range n).countP (fun j => hasB d j) + ([n] : List Nat).countP (fun j => hasB d j) := by rw [List.range_succ, List.countP_append]
    rw [hsp]
    cases hb : hasB d n with
    | false =>
      have : (List.range 6).countP (servedBy s d m (n + 1)) = (List.range 6).countP (servedBy s d m n) := by
        congr 1
        funext k
        rw [served_succ, hb]
        simp
      omega
    | true =>
      have h1 : ([n] : List Nat).countP (fun j => hasB d j) = 1 := by simp [hb]
      rw [h1]
      by_cases hex : ∃ x, x < 6 ∧ hasB s x = true ∧ hasB (m.getD n 0) x = true
      · obtain ⟨x, hx6, hxs, hxm⟩ := hex
        have := count_one (f := servedBy s d m (n + 1)) (g := servedBy s d m n) (x := x) (l := List.range 6) (List.nodup_range) (fun t ht hf => by
          have ht6 := List.mem_range.1 ht
          rw [served_succ, Bool.or_eq_true] at hf
          rcases hf with hf | hf
          · exact .inl hf
          · simp only [Bool.and_eq_true] at hf
            by_cases e : t = x
            · exact .inr e
            · have hno := ha t x ht6 hx6 hf.1 hxs e
              exfalso
              have hmem : m.getD n 0 ∈ m := by
                rw [List.getD_eq_getElem?_getD]
                cases hmn : m[n]? with
                | none =>
                  rw [List.getD_eq_getElem?_getD, hmn] at hxm
                  simp [hasB_zero] at hxm
                | some y => exact List.mem_of_getElem? hmn
              have : eatsBoth m t x = true := by
                unfold eatsBoth
                rw [List.any_eq_true]
                exact ⟨_, hmem, by rw [hf.2.2, hxm]; rfl⟩
              rw [this] at hno
              cases hno)
        omega
      · have : (List.range 6).countP (servedBy s d m (n + 1)) ≤ (List.range 6).countP (servedBy s d m n) := count_le (fun t ht hf => by
          rw [served_succ, Bool.or_eq_true] at hf
          rcases hf with hf | hf
          · exact hf
          · simp only [Bool.and_eq_true] at hf
            exact absurd ⟨t, List.mem_range.1 ht, hf.1, hf.2.2⟩ hex)
        omega
theorem served_all {g s d : Int} {m : List Int} (hF : feedsL g m d = true) (s0 : 0 ≤ s) (s1 : s ≤ full g) {k : Nat} (hk : k < 6) (hs : hasB s k = true) : servedBy s d m 6 k = true := by
  obtain ⟨hM, d0, d1⟩ := feeds_rng hF
  have hg := menuOk_g hM
  have hkg := full_hasB hg.1 hg.2 s0 s1 hk hs
  obtain ⟨i, x, a, b, c⟩ := (feeds_iff hM d0 d1).1 hF k hk (by omega)
  have hl := menuOk_len hM
  have hi := (List.getElem?_eq_some_iff.1 a).1
  unfold servedBy
  rw [hs, Bool.true_and, List.any_eq_true]
  refine ⟨i, List.mem_range.2 (by omega), ?_⟩
  rw [b, Bool.true_and, List.getD_eq_getElem?_getD, a]
  exact c
theorem apart_le {g s d : Int} {m : List Int} (hF : feedsL g m d = true) (s0 : 0 ≤ s) (s1 : s ≤ full g) (ha : apartS s (sharersL g m) = true) : sz s ≤ sz d := by
  obtain ⟨hM, d0, d1⟩ := feeds_rng hF
  have hg := menuOk_g hM
  have hfr := full_range hg.1 hg.2
  have hl := menuOk_len hM
  have hf := fullN_len hl
  rw [szC s0 (by omega), szC d0 (by omega)]
  have h1 : (List.range 6).countP (fun k => hasB s k) ≤ (List.range 6).countP (servedBy s d m 6) := count_le (fun t ht hf => served_all hF s0 s1 (List.mem_range.1 ht) hf)
  have h2 := served_count (d := d) (apart_sharers hM s0 s1 ha) 6
  omega
theorem apartMost_le {g d : Int} {m : List Int} (hF : feedsL g m d = true) : apartMostL g m ≤ sz d := by
  obtain ⟨hM, d0, d1⟩ := feeds_rng hF
  have hg := menuOk_g hM
  have hl := menuOk_len hM
  have hf := fullN_len hl
  have hr := sz_range (x := d) d0 (by omega)
  unfold apartMostL
  rw [if_pos hM]
  have hc := pow_cast g.toNat
  refine mostGo_le hr.1 _ (fun k hk ha => apart_le hF (by omega) (by unfold full; omega) ha)
theorem apartMost_guests {g : Int} {m : List Int} (hM : menuOk g m = true) : 0 ≤ apartMostL g m ∧ apartMostL g m ≤ g ∧ (decide (0 < apartMostL g m) = decide (0 < g)) := by
  have hg := menuOk_g hM
  have hc := pow_cast g.toNat
  have e : apartMostL g m = mostGo (sharersL g m) (2 ^ g.toNat) := by unfold apartMostL; rw [if_pos hM]
  have h0 := (mostGo_range (sharersL g m) (2 ^ g.toNat)).1
  rw [← e] at h0
  have hle : apartMostL g m ≤ g := by
    rw [e]
    refine mostGo_le hg.1 _ (fun k hk _ => ?_)
    have hk64 : (k : Int) < 64 := by have := pow_le64 (i := g.toNat) (by omega); omega
    have := sz_full_all ⟨g.toNat, by omega⟩ ⟨k, by omega⟩ (by show (k : Int) ≤ full (g.toNat : Int); unfold full; rw [Int.toNat_natCast]; omega)
    simp only [Int.toNat_of_nonneg hg.1] at this
    exact this
  refine ⟨h0, hle, ?_⟩
  by_cases hg0 : 0 < g
  · have h1 : 1 ≤ apartMostL g m := by
      rw [e]
      have hp1 : 1 < 2 ^ g.toNat := Nat.one_lt_two_pow (by omega)
      have := mostGo_ge (ms := sharersL g m) (2 ^ g.toNat) 1 hp1 (by
        have hq : ∀ x ∈ sharersL g m, 0 ≤ x ∧ x < 64 := fun x hx => by
          unfold sharersL at hx
          obtain ⟨a, ha, rfl⟩ := List.mem_map.1 hx
          have := List.mem_range.1 ha
          exact shGo_range (by omega) m 0 (menu64 hM) (by omega) (by omega)
        refine (apart_has (p := ((1 : Nat) : Int)) (by decide) (by decide) hq).2 (fun i j hil hi hj hbi hbj => ?_)
        have one_bit : ∀ i : Fin 6, hasB ((1 : Nat) : Int) i.val = true → i.val = 0 := by decide
        have ei := one_bit ⟨i, hi⟩ hbi
        have ej := one_bit ⟨j, hj⟩ hbj
        simp only at ei ej
        subst ei ej
        have hcell : (sharersL g m).getD 0 0 = shGo 0 m 0 := by
          unfold sharersL
          rw [List.getD_eq_getElem?_getD, tab_at (by omega)]
          rfl
        rw [hcell, shGo_has hi hj m 0 (menu64 hM) (by omega) (by omega), hasB_zero]
        simp)
      have hs : sz ((1 : Nat) : Int) = 1 := by decide
      rw [hs] at this
      exact this
    rw [decide_eq_true hg0, decide_eq_true (by omega)]
  · rw [decide_eq_false hg0, decide_eq_false (by omega)]
end Go.Proofs.YthbainbgimbjeaaDoor
