/- Tables and cliques: what the promises of chapter 6 say of seats.
   Conditions: none but those in each statement. -/
import Derived.Test.YthbainbgimbjeaaDoorZ2
import Derived.Test.YthbainbgimbjeaaDoorGuests14
namespace Go.Proofs.YthbainbgimbjeaaDoor
open Go.RowKit

/-! ### sets below 64 -/
theorem dropB_all : ∀ x y : Fin 64, (0 ≤ dropI x.val y.val ∧ dropI x.val y.val < 64) ∧ ∀ k : Fin 6, hasB (dropI x.val y.val) k.val = (hasB x.val k.val && !hasB y.val k.val) := by decide +kernel
theorem dropB {x y : Int} (h0 : 0 ≤ x) (h1 : x < 64) (k0 : 0 ≤ y) (k1 : y < 64) : (0 ≤ dropI x y ∧ dropI x y < 64) ∧ ∀ k : Nat, k < 6 → hasB (dropI x y) k = (hasB x k && !hasB y k) := by
  have := dropB_all ⟨x.toNat, by omega⟩ ⟨y.toNat, by omega⟩
  simp only [Int.toNat_of_nonneg h0, Int.toNat_of_nonneg k0] at this
  exact ⟨this.1, fun k hk => this.2 ⟨k, hk⟩⟩
theorem subB_all : ∀ x p : Fin 64, (meetI p.val x.val == p.val) = decide (∀ k : Fin 6, hasB p.val k.val = true → hasB x.val k.val = true) := by decide +kernel
theorem subB {x p : Int} (h0 : 0 ≤ x) (h1 : x < 64) (k0 : 0 ≤ p) (k1 : p < 64) : (meetI p x == p) = true ↔ ∀ k : Nat, k < 6 → hasB p k = true → hasB x k = true := by
  have := subB_all ⟨x.toNat, by omega⟩ ⟨p.toNat, by omega⟩
  simp only [Int.toNat_of_nonneg h0, Int.toNat_of_nonneg k0] at this
  rw [this, decide_eq_true_iff]
  exact ⟨fun h k hk => h ⟨k, hk⟩, fun h k => h k.val k.isLt⟩
theorem subD_all : ∀ x p : Fin 64, (meetI p.val x.val == p.val) = true → (x.val : Int) - p.val = dropI x.val p.val ∧ (p.val : Int) ≤ x.val ∧ sz p.val ≤ sz x.val := by decide +kernel
theorem subD {x p : Int} (h0 : 0 ≤ x) (h1 : x < 64) (k0 : 0 ≤ p) (k1 : p < 64) (h : (meetI p x == p) = true) : x - p = dropI x p ∧ p ≤ x ∧ sz p ≤ sz x := by
  have := subD_all ⟨x.toNat, by omega⟩ ⟨p.toNat, by omega⟩
  simp only [Int.toNat_of_nonneg h0, Int.toNat_of_nonneg k0] at this
  exact this h
theorem maskB_all (b0 b1 b2 b3 b4 b5 : Bool) : ∃ x : Fin 64, hasB x.val 0 = b0 ∧ hasB x.val 1 = b1 ∧ hasB x.val 2 = b2 ∧ hasB x.val 3 = b3 ∧ hasB x.val 4 = b4 ∧ hasB x.val 5 = b5 := by
  cases b0 <;> cases b1 <;> cases b2 <;> cases b3 <;> cases b4 <;> cases b5 <;> decide +kernel
/-- There is a set of any guests. -/
theorem maskB (P : Nat → Bool) : ∃ x : Int, 0 ≤ x ∧ x < 64 ∧ ∀ k, k < 6 → hasB x k = P k := by
  obtain ⟨x, h0, h1, h2, h3, h4, h5⟩ := maskB_all (P 0) (P 1) (P 2) (P 3) (P 4) (P 5)
  refine ⟨x.val, by omega, by have := x.isLt; omega, fun k hk => ?_⟩
  rcases (by omega : k = 0 ∨ k = 1 ∨ k = 2 ∨ k = 3 ∨ k = 4 ∨ k = 5) with rfl | rfl | rfl | rfl | rfl | rfl <;> assumption
theorem onesB_all : ∀ x : Fin 64, (∀ i j : Fin 6, hasB x.val i.val = true → hasB x.val j.val = true → i = j) → sz x.val ≤ 1 := by decide +kernel
theorem onesB {x : Int} (h0 : 0 ≤ x) (h1 : x < 64) (h : ∀ i j : Nat, i < 6 → j < 6 → hasB x i = true → hasB x j = true → i = j) : sz x ≤ 1 := by
  have := onesB_all ⟨x.toNat, by omega⟩
  simp only [Int.toNat_of_nonneg h0] at this
  exact this (fun i j hi hj => Fin.ext (h i.val j.val i.isLt j.isLt hi hj))
theorem twoB_all : ∀ x : Fin 64, 2 ≤ sz x.val → ∃ i j : Fin 6, i ≠ j ∧ hasB x.val i.val = true ∧ hasB x.val j.val = true := by decide +kernel
theorem szC_all : ∀ x : Fin 64, sz x.val = ((List.range 6).countP (fun k => hasB x.val k) : Nat) := by decide +kernel
theorem szC {x : Int} (h0 : 0 ≤ x) (h1 : x < 64) : sz x = ((List.range 6).countP (fun k => hasB x k) : Nat) := by
  have := szC_all ⟨x.toNat, by omega⟩
  simpa only [Int.toNat_of_nonneg h0] using this
theorem someB {x : Int} (h0 : 0 ≤ x) (h1 : x < 64) (h : 0 < x) : ∃ k : Nat, k < 6 ∧ hasB x k = true := by
  obtain ⟨k, hk⟩ := has_one_all ⟨x.toNat, by omega⟩ (by show 0 < x.toNat; omega)
  simp only [Int.toNat_of_nonneg h0] at hk
  exact ⟨k.val, k.isLt, hk⟩
theorem noB_all : ∀ k : Fin 6, hasB 0 k.val = false := by decide +kernel
theorem posB {x : Int} (h0 : 0 ≤ x) {k : Nat} (hk : k < 6) (h : hasB x k = true) : 0 < x := by
  rcases (by omega : 0 < x ∨ x = 0) with h1 | h1
  · exact h1
  · subst h1; rw [noB_all ⟨k, hk⟩] at h; cases h

/-! ### counting -/
theorem count_le {α : Type} {f g : α → Bool} {l : List α} (h : ∀ t ∈ l, f t = true → g t = true) : l.countP f ≤ l.countP g := List.countP_mono_left h
theorem count_lt {f g : Nat → Bool} : ∀ {l : List Nat} {x : Nat}, x ∈ l → f x = true → g x = false → (∀ t ∈ l, g t = true → f t = true) → l.countP g + 1 ≤ l.countP f
  | [], x, hx, _, _, _ => by simp at hx
  | y :: r, x, hx, hf, hg, h => by
    rw [List.countP_cons, List.countP_cons]
    by_cases e : y = x
    · subst e
      have := count_le (l := r) (fun t ht => h t (List.mem_cons_of_mem _ ht))
      rw [if_pos hf, if_neg (by rw [hg]; simp)]
      omega
    · have hx' : x ∈ r := by
        rcases List.mem_cons.1 hx with h1 | h1
        · exact absurd h1.symm e
        · exact h1
      have ih := count_lt hx' hf hg (fun t ht => h t (List.mem_cons_of_mem _ ht))
      have h2 := h y List.mem_cons_self
      cases hgy : g y with
      | false => simp; split <;> omega
      | true => rw [h2 hgy]; simp; omega
theorem count_one {f g : Nat → Bool} {x : Nat} : ∀ {l : List Nat}, l.Nodup → (∀ t ∈ l, f t = true → g t = true ∨ t = x) → l.countP f ≤ l.countP g + 1
  | [], _, _ => by simp
  | y :: r, hn, h => by
    rw [List.countP_cons, List.countP_cons]
    obtain ⟨hn1, hn2⟩ := List.nodup_cons.1 hn
    by_cases e : y = x
    · have : r.countP f ≤ r.countP g := count_le (fun t ht hf => by
        rcases h t (List.mem_cons_of_mem _ ht) hf with h1 | h1
        · exact h1
        · exact absurd (h1.trans e.symm ▸ ht) hn1)
      split <;> split <;> omega
    · have ih := count_one hn2 (fun t ht => h t (List.mem_cons_of_mem _ ht))
      have h2 := h y List.mem_cons_self
      cases hfy : f y with
      | false => simp; split <;> omega
      | true =>
        rcases h2 hfy with h1 | h1
        · rw [h1]; simp; omega
        · exact absurd h1 e

/-! ### the table of least tables -/
theorem tblI_stay (q : List Int) {a b : Nat} (h : b < a) : ∀ d : Nat, (tblI q (a + d)).getD b 0 = (tblI q a).getD b 0
  | 0 => rfl
  | d + 1 => by rw [← Nat.add_assoc, tblI_getD_lt q (show b < a + d by omega), tblI_stay q h d]
theorem tb_cell (q : List Int) {N b : Nat} (h : b < N) : (tblI q N).getD b 0 = cellI q (tblI q b) b := by
  obtain ⟨d, rfl⟩ : ∃ d, N = b + 1 + d := ⟨N - (b + 1), by omega⟩
  rw [tblI_stay q (show b < b + 1 by omega) d, tblI_getD_eq]
theorem tb_low (q : List Int) {N b i : Nat} (h : b < N) (hi : i < b) : (tblI q b).getD i 0 = (tblI q N).getD i 0 := by
  obtain ⟨d, rfl⟩ : ∃ d, N = b + d := ⟨N - b, by omega⟩
  rw [tblI_stay q hi d]
/-- The fewest tables for a set. -/
def tb (q : List Int) (N : Nat) (x : Int) : Int := (tblI q N).getD x.toNat 0
theorem tb_le {q : List Int} {N : Nat} {x p : Int} (h0 : 0 ≤ x) (hN : x < N) (h64 : N ≤ 64) (p0 : 0 < p) (p1 : p < 64) (hs : (meetI p x == p) = true) (ha : apartS p q = true) : tb q N x ≤ tb q N (x - p) + 1 := by
  have hd := subD h0 (by omega) (Int.le_of_lt p0) p1 hs
  obtain ⟨X, rfl⟩ : ∃ X : Nat, x = X := ⟨x.toNat, by omega⟩
  obtain ⟨P, rfl⟩ : ∃ P : Nat, p = P := ⟨p.toNat, by omega⟩
  unfold tb
  rw [show ((X : Int)).toNat = X from rfl, tb_cell q (show X < N by omega)]
  unfold cellI
  have := partGo_le q (tblI q X) (X : Int) (sz (X : Int)) X P (by omega) (by omega) hs ha
  rw [tb_low q (show X < N by omega) (show ((X : Int) - (P : Int)).toNat < X by omega)] at this
  exact this
theorem partGo_from (q T : List Int) (s init : Int) : ∀ n : Nat, partGo q T s init n = init ∨ ∃ p : Nat, 0 < p ∧ p ≤ n ∧ (meetI (p : Int) s == (p : Int)) = true ∧ apartS (p : Int) q = true ∧ partGo q T s init n = T.getD (s - (p : Int)).toNat 0 + 1
  | 0 => .inl rfl
  | n + 1 => by
    have ih := partGo_from q T s init n
    unfold partGo
    by_cases h : ((meetI ((n + 1 : Nat) : Int) s == ((n + 1 : Nat) : Int)) && apartS ((n + 1 : Nat) : Int) q) = true
    · rw [if_pos h]
      rw [Bool.and_eq_true] at h
      by_cases hm : partGo q T s init n ≤ T.getD (s - ((n + 1 : Nat) : Int)).toNat 0 + 1
      · rw [Int.min_eq_left hm]
        rcases ih with h1 | ⟨p, h1, h2, h3⟩
        · exact .inl h1
        · exact .inr ⟨p, h1, by omega, h3⟩
      · rw [Int.min_eq_right (by omega)]
        exact .inr ⟨n + 1, by omega, Nat.le_refl _, h.1, h.2, rfl⟩
    · rw [if_neg h]
      rcases ih with h1 | ⟨p, h1, h2, h3⟩
      · exact .inl h1
      · exact .inr ⟨p, h1, by omega, h3⟩
theorem tb_cases {q : List Int} {N : Nat} {x : Int} (h0 : 0 ≤ x) (hN : x < N) (_h64 : N ≤ 64) : tb q N x = sz x ∨ ∃ p : Int, 0 < p ∧ p ≤ x ∧ (meetI p x == p) = true ∧ apartS p q = true ∧ tb q N x = tb q N (x - p) + 1 := by
  obtain ⟨X, rfl⟩ : ∃ X : Nat, x = X := ⟨x.toNat, by omega⟩
  unfold tb
  rw [show ((X : Int)).toNat = X from rfl, tb_cell q (show X < N by omega)]
  unfold cellI
  rcases partGo_from q (tblI q X) (X : Int) (sz (X : Int)) X with h | ⟨p, h1, h2, h3, h4, h5⟩
  · exact .inl h
  · refine .inr ⟨p, by omega, by omega, h3, h4, ?_⟩
    rw [h5, tb_low q (show X < N by omega) (show ((X : Int) - (p : Int)).toNat < X by omega)]
theorem pow64 {g : Int} (g0 : 0 ≤ g) (g1 : g ≤ 6) : 2 ^ g.toNat ≤ 64 ∧ 1 ≤ 2 ^ g.toNat := by
  have : g.toNat ≤ 6 := by omega
  rcases (by omega : g.toNat = 0 ∨ g.toNat = 1 ∨ g.toNat = 2 ∨ g.toNat = 3 ∨ g.toNat = 4 ∨ g.toNat = 5 ∨ g.toNat = 6) with e | e | e | e | e | e | e <;> rw [e] <;> decide
theorem full_pow {g : Int} : full g = ((2 ^ g.toNat : Nat) : Int) - 1 := by unfold full; rw [Int.natCast_pow]; rfl
theorem tb_sz {g : Int} {q : List Int} (hQ : quarOk g q = true) {x : Int} (h0 : 0 ≤ x) (hN : x < (2 ^ g.toNat : Nat)) : tb q (2 ^ g.toNat) x ≤ sz x := by
  have := (tbl_same hQ (2 ^ g.toNat) (Nat.le_refl _)).2 x.toNat (by omega)
  rw [Int.toNat_of_nonneg h0] at this
  exact this
theorem apart_has {p : Int} {q : List Int} (hp0 : 0 ≤ p) (hp1 : p < 64) (hq : ∀ x ∈ q, 0 ≤ x ∧ x < 64) : apartS p q = true ↔ ∀ i j : Nat, i < q.length → i < 6 → j < 6 → hasB p i = true → hasB p j = true → hasB (q.getD i 0) j = false := by
  unfold apartS
  rw [apGo_iff]
  constructor
  · intro h i j hi hi6 hj h1 h2
    have hx := List.getElem?_eq_getElem hi
    have hr := hq _ (List.getElem_mem hi)
    have := h i _ hx (by rw [Nat.zero_add]; exact h1)
    rw [meet_zero hr.1 hr.2 hp0 hp1] at this
    rw [getD_at hx]
    cases e : hasB q[i] j with
    | false => rfl
    | true => exact absurd ⟨e, h2⟩ (this j hj)
  · intro h i o ho h1
    rw [Nat.zero_add] at h1
    have hi := (List.getElem?_eq_some_iff.1 ho).1
    have hr := hq _ (List.mem_of_getElem? ho)
    have hi6 : i < 6 := by
      rcases Nat.lt_or_ge i 6 with h6 | h6
      · exact h6
      · exfalso
        unfold hasB at h1
        have : p / 2 ^ i = 0 := Int.ediv_eq_zero_of_lt hp0 (by
          have : (2 : Int) ^ 6 ≤ 2 ^ i := by
            obtain ⟨d, rfl⟩ : ∃ d, i = 6 + d := ⟨i - 6, by omega⟩
            rw [Int.pow_add]
            have : (1 : Int) ≤ 2 ^ d := by
              have := Int.pow_pos (n := 2) (m := d) (by omega)
              omega
            omega
          omega)
        rw [this] at h1
        simp at h1
    rw [meet_zero hr.1 hr.2 hp0 hp1]
    intro j hj ⟨a, b⟩
    have := h i j hi hi6 hj h1 b
    rw [getD_at ho, a] at this
    cases this
theorem quar_all {g : Int} {q : List Int} (hQ : quarOk g q = true) : ∀ x ∈ q, 0 ≤ x ∧ x < 64 := fun x hx => by
  have := quarOk_at hQ hx
  exact ⟨this.1, this.2.2⟩

/-! ### cliques -/
theorem clique_tb {g : Int} {q : List Int} (hQ : quarOk g q = true) : ∀ (X : Nat), X < 2 ^ g.toNat → ∀ c : Int, 0 ≤ c → c < 64 → (meetI c (X : Int) == c) = true → (∀ i j : Nat, i < 6 → j < 6 → hasB c i = true → hasB c j = true → i ≠ j → hasB (q.getD i 0) j = true ∧ i < q.length) → sz c ≤ tb q (2 ^ g.toNat) X := by
  have hg := quarOk_g hQ
  have hp := pow64 hg.1 hg.2.1
  intro X
  induction X using Nat.strongRecOn with
  | ind X ih =>
    intro hX c c0 c1 hs hc
    have hd := subD (x := (X : Int)) (by omega) (by omega) c0 c1 hs
    rcases tb_cases (q := q) (N := 2 ^ g.toNat) (x := (X : Int)) (by omega) (by omega) hp.1 with h | ⟨p, h1, h2, h3, h4, h5⟩
    · rw [h]; exact hd.2.2
    · have hd2 := subD (x := (X : Int)) (by omega) (by omega) (by omega) (by omega) h3
      have hdr := dropB (x := (X : Int)) (y := p) (by omega) (by omega) (by omega) (by omega)
      have hdc := dropB (x := c) (y := p) c0 c1 (by omega) (by omega)
      have hsub := (subB (x := (X : Int)) (p := c) (by omega) (by omega) c0 c1).1 hs
      have hap := (apart_has (p := p) (q := q) (by omega) (by omega) (quar_all hQ)).1 h4
      have hmc : 0 ≤ meetI c p ∧ meetI c p < 64 := by
        have a1 := sz_drop c0 c1 (show 0 ≤ p by omega) (show p < 64 by omega)
        have : meetI c p = c - dropI c p := by unfold meetI dropI; omega
        have hdp := subD c0 c1 hdc.1.1 hdc.1.2 ((subB c0 c1 hdc.1.1 hdc.1.2).2 (fun k hk h => by rw [hdc.2 k hk, Bool.and_eq_true] at h; exact h.1))
        omega
      have hone : sz (meetI c p) ≤ 1 := onesB hmc.1 hmc.2 (fun i j hi hj a b => by
        rw [hasB_meet c0 c1 (by omega) (by omega) _ hi, Bool.and_eq_true] at a
        rw [hasB_meet c0 c1 (by omega) (by omega) _ hj, Bool.and_eq_true] at b
        rcases Nat.decEq i j with e | e
        · have h6 := hc i j hi hj a.1 b.1 e
          have h7 := hap i j h6.2 hi hj a.2 b.2
          rw [h6.1] at h7; cases h7
        · exact e)
      have hsd := sz_drop c0 c1 (show 0 ≤ p by omega) (show p < 64 by omega)
      have hr := ih (X - p.toNat) (by omega) (by omega) (dropI c p) hdc.1.1 hdc.1.2 (by
        rw [show ((X - p.toNat : Nat) : Int) = dropI (X : Int) p by omega]
        rw [subB hdr.1.1 hdr.1.2 hdc.1.1 hdc.1.2]
        intro k hk h
        rw [hdc.2 k hk, Bool.and_eq_true] at h
        rw [hdr.2 k hk, hsub k hk h.1, h.2]
        rfl) (fun i j hi hj a b e => by
        rw [hdc.2 i hi, Bool.and_eq_true] at a
        rw [hdc.2 j hj, Bool.and_eq_true] at b
        exact hc i j hi hj a.1 b.1 e)
      rw [show ((X - p.toNat : Nat) : Int) = (X : Int) - p by omega] at hr
      omega

theorem clq_pairs {g s : Int} {q : List Int} (hQ : quarOk g q = true) (h0 : 0 ≤ s) (h1 : s ≤ full g) : cliqueIn q s g.toNat = true ↔ ∀ i j : Nat, i < 6 → j < 6 → hasB s i = true → hasB s j = true → i ≠ j → hasB (q.getD i 0) j = true ∧ i < q.length := by
  have hg := quarOk_g hQ
  have hf := full_range hg.1 hg.2.1
  unfold cliqueIn
  rw [allN_iff]
  have hlow : ∀ k : Nat, k < 6 → hasB s k = true → k < g.toNat := fun k hk h => by have := full_hasB hg.1 hg.2.1 h0 h1 hk h; omega
  constructor
  · intro h i j hi hj a b e
    have hig := hlow i hi a
    have hq := quarOk_getD hQ i
    have := h i hig
    rw [a] at this
    simp only [Bool.not_true, Bool.false_or, beq_iff_eq] at this
    refine ⟨?_, by omega⟩
    have ho := one_out h0 (by omega) hi a
    have hp := pow_range i hi
    have hb2 := (dropB h0 (by omega) (show 0 ≤ (2 : Int) ^ i by omega) hp.2).2 j hj
    rw [ho.1, ← this, hasB_meet hq.1 hq.2.2 h0 (by omega) _ hj, b, hasB_pow hi hj, Bool.and_true, Bool.true_and] at hb2
    rw [hb2]
    simp [e]
  · intro h k hk
    cases hsk : hasB s k with
    | false => rfl
    | true =>
      have hk6 : k < 6 := by omega
      have hq := quarOk_getD hQ k
      have ho := one_out h0 (by omega) hk6 hsk
      have hp := pow_range k hk6
      have hdb := dropB h0 (by omega) (show 0 ≤ (2 : Int) ^ k by omega) hp.2
      simp only [Bool.not_true, Bool.false_or, beq_iff_eq]
      rw [← ho.1]
      have hm : 0 ≤ meetI (q.getD k 0) s ∧ meetI (q.getD k 0) s < 64 := by
        have := dropB hq.1 hq.2.2 h0 (by omega)
        have e : meetI (q.getD k 0) s = q.getD k 0 - dropI (q.getD k 0) s := by unfold meetI dropI; omega
        have hdp := subD hq.1 hq.2.2 this.1.1 this.1.2 ((subB hq.1 hq.2.2 this.1.1 this.1.2).2 (fun j hj h => by rw [this.2 j hj, Bool.and_eq_true] at h; exact h.1))
        omega
      refine hasB_ext hm.1 hm.2 hdb.1.1 hdb.1.2 (fun j hj => ?_)
      rw [hasB_meet hq.1 hq.2.2 h0 (by omega) _ hj, hdb.2 j hj, hasB_pow hk6 hj]
      by_cases e : k = j
      · subst e
        rw [quarOk_self hQ (by omega)]
        simp
      · cases hsj : hasB s j with
        | false => simp
        | true => rw [(h k j hk6 hj hsk hsj e).1]; simp [e]

theorem mostGo_le {ms : List Int} {B : Int} (hB : 0 ≤ B) : ∀ n : Nat, (∀ k : Nat, k < n → apartS k ms = true → sz k ≤ B) → mostGo ms n ≤ B
  | 0, _ => hB
  | n + 1, h => by
    have ih := mostGo_le hB n (fun k hk => h k (by omega))
    unfold mostGo
    split
    · rename_i hs
      have := h n (by omega) hs
      omega
    · exact ih
theorem mostGo_ge {ms : List Int} : ∀ (n k : Nat), k < n → apartS k ms = true → sz k ≤ mostGo ms n
  | 0, k, h, _ => absurd h (by omega)
  | n + 1, k, h, ha => by
    unfold mostGo
    by_cases e : k = n
    · subst e
      rw [if_pos ha]
      exact Int.le_max_right _ _
    · have := mostGo_ge n k (by omega) ha
      split
      · exact Int.le_trans this (Int.le_max_left _ _)
      · exact this
theorem mostGo_from (ms : List Int) : ∀ n : Nat, mostGo ms n = 0 ∨ ∃ k : Nat, k < n ∧ apartS k ms = true ∧ mostGo ms n = sz k
  | 0 => .inl rfl
  | n + 1 => by
    have ih := mostGo_from ms n
    unfold mostGo
    split
    · rename_i hs
      by_cases h : mostGo ms n ≤ sz n
      · rw [Int.max_eq_right h]
        exact .inr ⟨n, by omega, hs, rfl⟩
      · rw [Int.max_eq_left (by omega)]
        rcases ih with h1 | ⟨k, h1, h2⟩
        · exact .inl h1
        · exact .inr ⟨k, by omega, h2⟩
    · rcases ih with h1 | ⟨k, h1, h2⟩
      · exact .inl h1
      · exact .inr ⟨k, by omega, h2⟩

theorem tb_full {g : Int} {q : List Int} (hQ : quarOk g q = true) : seatsLeastL g q = tb q (2 ^ g.toNat) (full g) := by
  have hg := quarOk_g hQ
  have hp := pow64 hg.1 hg.2.1
  unfold seatsLeastL tb
  rw [if_pos hQ, full_pow]
  congr 1
  omega
theorem sub_full {g s : Int} (g0 : 0 ≤ g) (g1 : g ≤ 6) (h0 : 0 ≤ s) (h1 : s ≤ full g) : (meetI s (full g) == s) = true := by
  have hf := full_range g0 g1
  rw [subB hf.1 hf.2 h0 (by omega)]
  intro k hk h
  have := full_hasB g0 g1 h0 h1 hk h
  have e := hasB_full_all ⟨g.toNat, by omega⟩ ⟨k, hk⟩
  simp only [Int.toNat_of_nonneg g0] at e
  rw [e, decide_eq_true_iff]
  omega

/-- Who quarrel all need a table each. -/
theorem clique_least {g : Int} {q : List Int} (hQ : quarOk g q = true) : cliqueMostL g q ≤ seatsLeastL g q := by
  have hg := quarOk_g hQ
  have hp := pow64 hg.1 hg.2.1
  have hf := full_range hg.1 hg.2.1
  have hfp := full_pow (g := g)
  rw [tb_full hQ]
  unfold cliqueMostL
  rw [if_pos hQ]
  have key : ∀ k : Nat, k < 2 ^ g.toNat → apartS k (peaceL g q) = true → sz k ≤ tb q (2 ^ g.toNat) (full g) := fun k hk ha => by
    rw [clique_apart hQ (by omega) (by omega)] at ha
    have := clique_tb hQ (full g).toNat (by omega) (k : Int) (by omega) (by omega) (by rw [Int.toNat_of_nonneg hf.1]; exact sub_full hg.1 hg.2.1 (by omega) (by omega)) ((clq_pairs hQ (by omega) (by omega)).1 ha)
    rwa [Int.toNat_of_nonneg hf.1] at this
  refine mostGo_le ?_ _ key
  have h0 := key 0 (by omega) (by
    rw [clique_apart hQ (by omega) (by omega), clq_pairs hQ (by omega) (by omega)]
    intro i j hi hj a
    rw [show (((0 : Nat) : Int)) = 0 from rfl, noB_all ⟨i, hi⟩] at a
    cases a)
  have : sz ((0 : Nat) : Int) = 0 := by decide
  omega

theorem clique_some {g : Int} {q : List Int} (hQ : quarOk g q = true) : (decide (2 ≤ cliqueMostL g q) = q.any (fun x => decide (0 < x))) ∧ (decide (0 < cliqueMostL g q) = decide (0 < g)) := by
  have hg := quarOk_g hQ
  have hp := pow64 hg.1 hg.2.1
  have hf := full_range hg.1 hg.2.1
  have hfp := full_pow (g := g)
  unfold cliqueMostL
  rw [if_pos hQ]
  have hset : ∀ s : Int, 0 ≤ s → s < 64 → (∀ k : Nat, k < 6 → hasB s k = true → k < q.length) → s ≤ full g := fun s h0 h1 h => by
    have hs : (meetI s (full g) == s) = true := by
      rw [subB hf.1 hf.2 h0 h1]
      intro k hk hb
      have e := hasB_full_all ⟨g.toNat, by omega⟩ ⟨k, hk⟩
      simp only [Int.toNat_of_nonneg hg.1] at e
      rw [e, decide_eq_true_iff]
      have := h k hk hb
      omega
    exact (subD hf.1 hf.2 h0 h1 hs).2.1
  have hge : ∀ s : Int, 0 ≤ s → s < 64 → (∀ k : Nat, k < 6 → hasB s k = true → k < q.length) → (∀ i j : Nat, i < 6 → j < 6 → hasB s i = true → hasB s j = true → i ≠ j → hasB (q.getD i 0) j = true) → sz s ≤ mostGo (peaceL g q) (2 ^ g.toNat) := fun s h0 h1 hl h => by
    have hsf := hset s h0 h1 hl
    have := mostGo_ge (ms := peaceL g q) (2 ^ g.toNat) s.toNat (by omega) (by
      rw [Int.toNat_of_nonneg h0, clique_apart hQ h0 hsf, clq_pairs hQ h0 hsf]
      exact fun i j hi hj a b e => ⟨h i j hi hj a b e, hl i hi a⟩)
    rwa [Int.toNat_of_nonneg h0] at this
  constructor
  · rw [Bool.eq_iff_iff, decide_eq_true_iff, List.any_eq_true]
    constructor
    · intro h2
      rcases mostGo_from (peaceL g q) (2 ^ g.toNat) with h | ⟨k, h1, h3, h4⟩
      · omega
      · rw [clique_apart hQ (by omega) (by omega), clq_pairs hQ (by omega) (by omega)] at h3
        obtain ⟨i, j, hij, a, b⟩ := twoB_all ⟨k, by omega⟩ (by show (2 : Int) ≤ sz (k : Int); omega)
        have h5 := h3 i.val j.val i.isLt j.isLt a b (fun e => hij (Fin.ext e))
        have hq := quarOk_getD hQ i.val
        refine ⟨q.getD i.val 0, ?_, by rw [decide_eq_true_iff]; exact posB hq.1 j.isLt h5.1⟩
        rw [List.getD_eq_getElem?_getD, List.getElem?_eq_getElem h5.2]
        exact List.getElem_mem h5.2
    · rintro ⟨x, hx, hx0⟩
      rw [decide_eq_true_iff] at hx0
      obtain ⟨a, ha⟩ := List.mem_iff_getElem?.1 hx
      have hal := (List.getElem?_eq_some_iff.1 ha).1
      have hr := quarOk_at hQ hx
      obtain ⟨b, hb6, hb⟩ := someB hr.1 hr.2.2 hx0
      have hbl : b < q.length := by have := full_hasB hg.1 hg.2.1 hr.1 hr.2.1 hb6 hb; omega
      have hab : hasB (q.getD a 0) b = true := by rw [getD_at ha]; exact hb
      have hba := quarOk_sym hQ hal hbl hab
      have hne : a ≠ b := fun e => by
        subst e
        rw [quarOk_self hQ hal] at hab
        cases hab
      obtain ⟨s, s0, s1, hs⟩ := maskB (fun k => k == a || k == b)
      have := hge s s0 s1 (fun k hk h => by
        rw [hs k hk, Bool.or_eq_true, beq_iff_eq, beq_iff_eq] at h
        rcases h with rfl | rfl <;> assumption) (fun i j hi hj h1 h2 e => by
        rw [hs i hi, Bool.or_eq_true, beq_iff_eq, beq_iff_eq] at h1
        rw [hs j hj, Bool.or_eq_true, beq_iff_eq, beq_iff_eq] at h2
        rcases h1 with rfl | rfl <;> rcases h2 with rfl | rfl
        · exact absurd rfl e
        · exact hab
        · exact hba
        · exact absurd rfl e)
      have h2 : 2 ≤ sz s := by
        rw [szC s0 s1]
        have ha6 : a < 6 := by omega
        have e1 : (List.range 6).countP (fun k => hasB s k) = (List.range 6).countP (fun k => k == a || k == b) := by
          apply Nat.le_antisymm
          · exact count_le (fun t ht h => by rw [← hs t (List.mem_range.1 ht)]; exact h)
          · exact count_le (fun t ht h => by rw [hs t (List.mem_range.1 ht)]; exact h)
        rw [e1]
        have l1 : (List.range 6).countP (fun k => k == a) + 1 ≤ (List.range 6).countP (fun k => k == a || k == b) := count_lt (x := b) (List.mem_range.2 hb6) (by simp) (by simp; omega) (fun t _ h => by simp at h ⊢; exact .inl h)
        have l2 : (List.range 6).countP (fun _ => false) + 1 ≤ (List.range 6).countP (fun k => k == a) := count_lt (x := a) (List.mem_range.2 ha6) (by simp) rfl (fun t _ h => by cases h)
        omega
      omega
  · rw [Bool.eq_iff_iff, decide_eq_true_iff, decide_eq_true_iff]
    constructor
    · intro h
      rcases (by omega : g = 0 ∨ 0 < g) with e | e
      · subst e
        rcases mostGo_from (peaceL 0 q) (2 ^ (0 : Int).toNat) with h1 | ⟨k, h1, h3, h4⟩
        · omega
        · have hk : k = 0 := by
            have : (2 : Nat) ^ (0 : Int).toNat = 1 := rfl
            omega
          subst hk
          have : sz ((0 : Nat) : Int) = 0 := by decide
          omega
      · exact e
    · intro h
      obtain ⟨s, s0, s1, hs⟩ := maskB (fun k => k == 0)
      have := hge s s0 s1 (fun k hk h1 => by
        rw [hs k hk, beq_iff_eq] at h1
        omega) (fun i j hi hj h1 h2 e => by
        rw [hs i hi, beq_iff_eq] at h1
        rw [hs j hj, beq_iff_eq] at h2
        omega)
      have h2 : 1 ≤ sz s := by
        rw [szC s0 s1]
        have l2 : (List.range 6).countP (fun _ => false) + 1 ≤ (List.range 6).countP (fun k => hasB s k) := count_lt (x := 0) (List.mem_range.2 (by omega)) (by rw [hs 0 (by omega)]; rfl) rfl (fun t _ h => by cases h)
        omega
      omega
end Go.Proofs.YthbainbgimbjeaaDoor
