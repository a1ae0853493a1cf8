/- The fewest dishes for each set of guests who are just what some dishes feed: the table that gets one dish after the other; plain mathematics.
   Conditions: at most six dishes, sets below 64. -/
import Derived.Test.YthbainbgimbjeaaDoorZ2
namespace Go.Proofs.YthbainbgimbjeaaDoor
open Go.RowKit

/-- The order of sets of dishes: how many, then the sum. -/
def keyD (d : Int) : Int := sz d * 64 + d
def fewerL (a b : Int) : Bool := decide (sz a < sz b) || (decide (sz a = sz b) && decide (a < b))
theorem fewer_key {a b : Int} (h0 : 0 ≤ a) (h1 : a < 64) (k0 : 0 ≤ b) (k1 : b < 64) : fewerL a b = decide (keyD a < keyD b) := by
  unfold fewerL keyD
  rw [Bool.eq_iff_iff]
  simp only [Bool.or_eq_true, Bool.and_eq_true, decide_eq_true_eq]
  omega

theorem low_all : ∀ (i : Fin 6) (d : Fin 64), d.val < 2 ^ i.val → hasB (d.val : Int) i.val = false ∧ hasB ((d.val : Int) + 2 ^ i.val) i.val = true ∧ orI (d.val : Int) (2 ^ i.val) = (d.val : Int) + 2 ^ i.val ∧ sz ((d.val : Int) + 2 ^ i.val) = sz (d.val : Int) + 1 := by decide +kernel
theorem low_bits : ∀ (i : Fin 6) (d : Fin 64) (k : Fin 6), d.val < 2 ^ i.val → k.val < i.val → hasB ((d.val : Int) + 2 ^ i.val) k.val = hasB (d.val : Int) k.val := by decide +kernel
theorem high_all : ∀ (i : Fin 6) (d : Fin 64), d.val < 2 ^ (i.val + 1) → (hasB (d.val : Int) i.val = false → d.val < 2 ^ i.val) ∧ (hasB (d.val : Int) i.val = true → 2 ^ i.val ≤ d.val ∧ orI (d.val : Int) (2 ^ i.val) = (d.val : Int)) := by decide +kernel
theorem pow_cast (i : Nat) : ((2 ^ i : Nat) : Int) = (2 : Int) ^ i := by simp
theorem pow_le64 {i : Nat} (hi : i ≤ 6) : (2 : Int) ^ i ≤ 64 ∧ 1 ≤ (2 : Int) ^ i := ⟨(pow_range6 i hi).2, (pow_range6 i hi).1⟩
theorem low_at {i : Nat} {d : Int} (hi : i < 6) (h0 : 0 ≤ d) (h1 : d < 2 ^ i) : hasB d i = false ∧ hasB (d + 2 ^ i) i = true ∧ orI d (2 ^ i) = d + 2 ^ i ∧ sz (d + 2 ^ i) = sz d + 1 := by
  have hp := pow_le64 (i := i) (by omega)
  have := low_all ⟨i, hi⟩ ⟨d.toNat, by omega⟩ (by show d.toNat < 2 ^ i; have := pow_cast i; omega)
  simpa only [Int.toNat_of_nonneg h0] using this
theorem low_bit {i k : Nat} {d : Int} (hi : i < 6) (hk : k < i) (h0 : 0 ≤ d) (h1 : d < 2 ^ i) : hasB (d + 2 ^ i) k = hasB d k := by
  have hp := pow_le64 (i := i) (by omega)
  have := low_bits ⟨i, hi⟩ ⟨d.toNat, by omega⟩ ⟨k, by omega⟩ (by show d.toNat < 2 ^ i; have := pow_cast i; omega) hk
  simpa only [Int.toNat_of_nonneg h0] using this
theorem high_at {i : Nat} {d : Int} (hi : i < 6) (h0 : 0 ≤ d) (h1 : d < 2 ^ (i + 1)) : (hasB d i = false → d < 2 ^ i) ∧ (hasB d i = true → 2 ^ i ≤ d ∧ orI d (2 ^ i) = d) := by
  have hp := pow_le64 (i := i + 1) (by omega)
  have hc := pow_cast i
  have hc2 := pow_cast (i + 1)
  have := high_all ⟨i, hi⟩ ⟨d.toNat, by omega⟩ (by show d.toNat < 2 ^ (i + 1); omega)
  simp only [Int.toNat_of_nonneg h0] at this
  refine ⟨fun h => ?_, fun h => ?_⟩
  · have := this.1 h; omega
  · obtain ⟨a, b⟩ := this.2 h
    exact ⟨by omega, b⟩

theorem fedGo_app (d : Int) (e : Int) : ∀ (m : List Int) (k : Nat) (out : Int), fedGo d k (m ++ [e]) out = if hasB d (k + m.length) = true then orI (fedGo d k m out) e else fedGo d k m out
  | [], k, out => by simp [fedGo]
  | x :: r, k, out => by
    rw [List.cons_append, fedGo, fedGo_app d e r (k + 1), fedGo, List.length_cons, show k + (r.length + 1) = k + 1 + r.length from by omega]
theorem fedGo_congr {d d' : Int} : ∀ (m : List Int) (k : Nat) (out : Int), (∀ j, k ≤ j → j < k + m.length → hasB d j = hasB d' j) → fedGo d k m out = fedGo d' k m out
  | [], _, _, _ => rfl
  | x :: r, k, out, h => by
    rw [fedGo, fedGo, h k (Nat.le_refl _) (by simp), fedGo_congr r (k + 1) _ (fun j hj hl => h j (by omega) (by simp only [List.length_cons]; omega))]

/-- Dishes of the first i that feed just this set. -/
def Cand (m : List Int) (i : Nat) (S d : Int) : Prop := 0 ≤ d ∧ d < 2 ^ i ∧ fedGo d 0 (m.take i) 0 = S
theorem key_low {i : Nat} {d : Int} (hi : i < 6) (h0 : 0 ≤ d) (h1 : d < 2 ^ i) : keyD (d + 2 ^ i) = keyD d + 64 + 2 ^ i := by
  unfold keyD
  rw [(low_at hi h0 h1).2.2.2]
  omega
def BestD (K : Int → Int) (m : List Int) (i : Nat) (S d : Int) : Prop := Cand m i S d ∧ ∀ d', Cand m i S d' → K d ≤ K d'
structure Table (K : Int → Int) (m : List Int) (i : Nat) (M : Int → Option Int) : Prop where
  best : ∀ S d, M S = some d → BestD K m i S d
  none_ : ∀ S, M S = none → ∀ d, ¬ Cand m i S d
structure MidT (K : Int → Int) (m : List Int) (i : Nat) (e : Int) (M0 : Int → Option Int) (p : List Int) (M : Int → Option Int) : Prop where
  cand : ∀ S d, M S = some d → Cand m (i + 1) S d
  old : ∀ S d, M0 S = some d → ∃ d2, M S = some d2 ∧ K d2 ≤ K d
  new : ∀ T ∈ p, ∀ d, M0 T = some d → ∃ d2, M (orI T e) = some d2 ∧ K d2 ≤ K (d + 2 ^ i)

theorem take_step {m : List Int} {i : Nat} {e : Int} (he : m[i]? = some e) : m.take (i + 1) = m.take i ++ [e] ∧ (m.take i).length = i := by
  obtain ⟨hi, h⟩ := List.getElem?_eq_some_iff.1 he
  exact ⟨by rw [List.take_succ_eq_append_getElem hi, h], by rw [List.length_take]; omega⟩
theorem cand_low {m : List Int} {i : Nat} {e S d : Int} (hi : i < 6) (he : m[i]? = some e) (h0 : 0 ≤ d) (h1 : d < 2 ^ i) : Cand m (i + 1) S d ↔ Cand m i S d := by
  obtain ⟨t1, t2⟩ := take_step he
  have hb := (low_at hi h0 h1).1
  have hp : (2 : Int) ^ i < 2 ^ (i + 1) := by have := pow_cast i; have := pow_cast (i + 1); have := Nat.pow_lt_pow_right (a := 2) (by omega) (show i < i + 1 by omega); omega
  unfold Cand
  rw [t1, fedGo_app, Nat.zero_add, t2, hb, if_neg (by decide)]
  exact ⟨fun h => ⟨h0, h1, h.2.2⟩, fun h => ⟨h0, by omega, h.2.2⟩⟩
theorem cand_high {m : List Int} {i : Nat} {e d : Int} (hi : i < 6) (he : m[i]? = some e) (h0 : 0 ≤ d) (h1 : d < 2 ^ i) : fedGo (d + 2 ^ i) 0 (m.take (i + 1)) 0 = orI (fedGo d 0 (m.take i) 0) e := by
  obtain ⟨t1, t2⟩ := take_step he
  rw [t1, fedGo_app, Nat.zero_add, t2, (low_at hi h0 h1).2.1, if_pos rfl, fedGo_congr (d := d + 2 ^ i) (d' := d) (m.take i) 0 0 (fun j _ hj => low_bit hi (by omega) h0 h1)]
theorem MidT.start {K : Int → Int} {m : List Int} {i : Nat} {e : Int} {M0 : Int → Option Int} (hi : i < 6) (he : m[i]? = some e) (h : Table K m i M0) : MidT K m i e M0 [] M0 :=
  ⟨fun S d hd => (cand_low hi he (h.best S d hd).1.1 (h.best S d hd).1.2.1).2 (h.best S d hd).1, fun S d hd => ⟨d, hd, Int.le_refl _⟩, fun T hT => by simp at hT⟩
def putM (M : Int → Option Int) (S d : Int) : Int → Option Int := fun x => if x = S then some d else M x
theorem or_idem_all : ∀ x y : Fin 64, orI (orI x.val y.val) y.val = orI x.val y.val := by decide +kernel
theorem or_idem {x y : Int} (h0 : 0 ≤ x) (h1 : x < 64) (k0 : 0 ≤ y) (k1 : y < 64) : orI (orI x y) y = orI x y := by
  have := or_idem_all ⟨x.toNat, by omega⟩ ⟨y.toNat, by omega⟩
  simpa only [Int.toNat_of_nonneg h0, Int.toNat_of_nonneg k0] using this
/-- What one more dish makes of what stands at a set. -/
theorem MidT.cand_new {K : Int → Int} {m : List Int} {i : Nat} {e T c : Int} {M0 M : Int → Option Int} {p : List Int} (hi : i < 6) (he : m[i]? = some e) (hm : ∀ x ∈ m, 0 ≤ x ∧ x < 64) (h : MidT K m i e M0 p M) (hc : M T = some c) :
    Cand m (i + 1) (orI T e) (orI c (2 ^ i)) ∧ 0 ≤ c ∧ c < 2 ^ (i + 1) := by
  have hC := h.cand T c hc
  have hh := high_at hi hC.1 hC.2.1
  obtain ⟨t1, t2⟩ := take_step he
  have heb := hm e (List.mem_of_getElem? he)
  refine ⟨?_, hC.1, hC.2.1⟩
  cases hb : hasB c i with
  | true =>
    obtain ⟨a, b⟩ := hh.2 hb
    rw [b]
    refine ⟨hC.1, hC.2.1, ?_⟩
    have hf := hC.2.2
    rw [t1, fedGo_app, Nat.zero_add, t2, hb, if_pos rfl] at hf ⊢
    have hr := fedGo_range (d := c) (m.take i) 0 0 (fun x hx => hm x (List.mem_of_mem_take hx)) (by omega) (by omega)
    rw [← hf, or_idem hr.1 hr.2 heb.1 heb.2]
  | false =>
    have hlt := hh.1 hb
    have hl := low_at hi hC.1 hlt
    rw [hl.2.2.1]
    have hp : (2 : Int) ^ (i + 1) = 2 ^ i + 2 ^ i := by rw [Int.pow_succ]; omega
    have hcc := hC.1
    refine ⟨by have := pow_le64 (i := i) (by omega); omega, by omega, ?_⟩
    rw [cand_high hi he hC.1 hlt]
    rw [((cand_low hi he hC.1 hlt).1 hC).2.2]
theorem MidT.key_new {K : Int → Int} (hK : ∀ i, i < 6 → ∀ d, 0 ≤ d → d < 2 ^ i → K (d + 2 ^ i) = K d + 64 + 2 ^ i) {m : List Int} {i : Nat} {e T c d : Int} {M0 M : Int → Option Int} {p : List Int} (hi : i < 6) (h : MidT K m i e M0 p M) (hc : M T = some c) (hd0 : 0 ≤ d) (hd1 : d < 2 ^ i) (hk : K c ≤ K d) : K (orI c (2 ^ i)) ≤ K (d + 2 ^ i) := by
  have hC := h.cand T c hc
  have hh := high_at hi hC.1 hC.2.1
  have hp := pow_le64 (i := i) (by omega)
  rw [hK i hi d hd0 hd1]
  cases hb : hasB c i with
  | true =>
    rw [(hh.2 hb).2]
    omega
  | false =>
    have hlt := hh.1 hb
    rw [(low_at hi hC.1 hlt).2.2.1, hK i hi c hC.1 hlt]
    omega
/-- One key of before: the table gets the better one of what stands there and of what is new. -/
theorem MidT.step {K : Int → Int} (hK : ∀ i, i < 6 → ∀ d, 0 ≤ d → d < 2 ^ i → K (d + 2 ^ i) = K d + 64 + 2 ^ i) {F : Int → Int → Bool} (hF : ∀ a b : Int, 0 ≤ a → a < 64 → 0 ≤ b → b < 64 → F a b = decide (K a < K b)) {m : List Int} {i : Nat} {e T c : Int} {M0 M : Int → Option Int} {p : List Int} (hi : i < 6) (he : m[i]? = some e) (hm : ∀ x ∈ m, 0 ≤ x ∧ x < 64) (h0 : Table K m i M0) (h : MidT K m i e M0 p M) (hc : M T = some c) :
    (((M (orI T e)).isSome = false ∨ F (orI c (2 ^ i)) ((M (orI T e)).getD 0) = true) → MidT K m i e M0 (p ++ [T]) (putM M (orI T e) (orI c (2 ^ i)))) ∧
    (((M (orI T e)).isSome = true ∧ F (orI c (2 ^ i)) ((M (orI T e)).getD 0) = false) → MidT K m i e M0 (p ++ [T]) M) := by
  obtain ⟨hN, hc0, hc1⟩ := h.cand_new hi he hm hc
  have hp2 := pow_le64 (i := i + 1) (by omega)
  have hkey : ∀ d, M0 T = some d → K (orI c (2 ^ i)) ≤ K (d + 2 ^ i) := fun d hd => by
    obtain ⟨d2, a, b⟩ := h.old T d hd
    rw [hc] at a
    injection a with a
    subst a
    exact h.key_new hK hi hc (h0.best T d hd).1.1 (h0.best T d hd).1.2.1 b
  have hbest : ∀ b, M (orI T e) = some b → F (orI c (2 ^ i)) b = decide (K (orI c (2 ^ i)) < K b) := fun b hb => by
    have hB := h.cand _ _ hb
    exact hF _ _ hN.1 (by have := hN.2.1; omega) hB.1 (by have := hB.2.1; omega)
  refine ⟨fun hcase => ⟨fun S d hS => ?_, fun S d hS => ?_, fun T' hT' d hd => ?_⟩, fun hcase => ⟨h.cand, h.old, fun T' hT' d hd => ?_⟩⟩
  · unfold putM at hS
    split at hS
    · rename_i e2
      injection hS with hS
      rw [e2, ← hS]
      exact hN
    · exact h.cand S d hS
  · obtain ⟨d2, a, b⟩ := h.old S d hS
    unfold putM
    by_cases e2 : S = orI T e
    · rw [if_pos e2]
      refine ⟨_, rfl, ?_⟩
      rw [e2] at a
      rcases hcase with hcase | hcase
      · rw [a] at hcase; cases hcase
      · rw [a, Option.getD_some, hbest d2 a] at hcase
        have := of_decide_eq_true hcase
        exact Int.le_trans (Int.le_of_lt this) b
    · rw [if_neg e2]
      exact ⟨d2, a, b⟩
  · rcases List.mem_append.1 hT' with hT' | hT'
    · obtain ⟨d2, a, b⟩ := h.new T' hT' d hd
      unfold putM
      by_cases e2 : orI T' e = orI T e
      · rw [if_pos e2]
        refine ⟨_, rfl, ?_⟩
        rw [e2] at a
        rcases hcase with hcase | hcase
        · rw [a] at hcase; cases hcase
        · rw [a, Option.getD_some, hbest d2 a] at hcase
          have := of_decide_eq_true hcase
          exact Int.le_trans (Int.le_of_lt this) b
      · rw [if_neg e2]
        exact ⟨d2, a, b⟩
    · simp only [List.mem_cons, List.not_mem_nil, or_false] at hT'
      subst hT'
      unfold putM
      rw [if_pos rfl]
      exact ⟨_, rfl, hkey d hd⟩
  · rcases List.mem_append.1 hT' with hT' | hT'
    · exact h.new T' hT' d hd
    · simp only [List.mem_cons, List.not_mem_nil, or_false] at hT'
      subst hT'
      obtain ⟨b, hb⟩ : ∃ b, M (orI T' e) = some b := by
        cases hx : M (orI T' e) with
        | none => rw [hx] at hcase; cases hcase.1
        | some b => exact ⟨b, rfl⟩
      rw [hb] at hcase
      have h2 := hcase.2
      rw [Option.getD_some, hbest b hb] at h2
      have h3 := of_decide_eq_false h2
      have := hkey d hd
      exact ⟨b, hb, Int.le_trans (Int.not_lt.1 h3) this⟩
/-- All keys of before: the table of one dish more. -/
theorem MidT.done {K : Int → Int} (hK : ∀ i, i < 6 → ∀ d, 0 ≤ d → d < 2 ^ i → K (d + 2 ^ i) = K d + 64 + 2 ^ i) {m : List Int} {i : Nat} {e : Int} {M0 M : Int → Option Int} {p : List Int} (hi : i < 6) (he : m[i]? = some e) (h0 : Table K m i M0) (h : MidT K m i e M0 p M) (hp : ∀ T, (M0 T).isSome = true → T ∈ p) : Table K m (i + 1) M := by
  have key : ∀ S d', Cand m (i + 1) S d' → ∃ d2, M S = some d2 ∧ K d2 ≤ K d' := by
    intro S d' hC
    have hh := high_at hi hC.1 hC.2.1
    cases hb : hasB d' i with
    | false =>
      have hlt := hh.1 hb
      have hC2 := (cand_low hi he hC.1 hlt).1 hC
      cases hM : M0 S with
      | none => exact absurd hC2 (h0.none_ S hM d')
      | some b =>
        have hb2 := (h0.best S b hM).2 d' hC2
        obtain ⟨d2, a, c⟩ := h.old S b hM
        exact ⟨d2, a, Int.le_trans c hb2⟩
    | true =>
      have hge := (hh.2 hb).1
      have hp2 : (2 : Int) ^ (i + 1) = 2 ^ i + 2 ^ i := by rw [Int.pow_succ]; omega
      obtain ⟨d'', hd''⟩ : ∃ d'', d' = d'' + 2 ^ i := ⟨d' - 2 ^ i, by omega⟩
      have hq0 : 0 ≤ d'' := by omega
      have hq1 : d'' < 2 ^ i := by have := hC.2.1; omega
      have hf := hC.2.2
      rw [hd'', cand_high hi he hq0 hq1] at hf
      have hC2 : Cand m i (fedGo d'' 0 (m.take i) 0) d'' := ⟨hq0, hq1, rfl⟩
      cases hM : M0 (fedGo d'' 0 (m.take i) 0) with
      | none => exact absurd hC2 (h0.none_ _ hM d'')
      | some b =>
        have hb2 := (h0.best _ b hM).2 d'' hC2
        have hbC := (h0.best _ b hM).1
        obtain ⟨d2, a, c⟩ := h.new _ (hp _ (by rw [hM]; rfl)) b hM
        rw [hf] at a
        refine ⟨d2, a, ?_⟩
        rw [hd'', hK i hi d'' hq0 hq1]
        rw [hK i hi b hbC.1 hbC.2.1] at c
        omega
  refine ⟨fun S d hS => ⟨h.cand S d hS, fun d' hd' => ?_⟩, fun S hS d hd => ?_⟩
  · obtain ⟨d2, a, b⟩ := key S d' hd'
    rw [hS] at a
    injection a with a
    rw [a]
    exact b
  · obtain ⟨d2, a, _⟩ := key S d hd
    rw [hS] at a
    cases a
theorem Table.start (K : Int → Int) (m : List Int) : Table K m 0 (fun x => if x = 0 then some 0 else none) := by
  refine ⟨fun S d hd => ?_, fun S hS d hd => ?_⟩
  · split at hd
    · rename_i e
      injection hd with hd
      subst e hd
      refine ⟨⟨by omega, by decide, by simp [fedGo]⟩, fun d' hd' => ?_⟩
      have h1 := hd'.1
      have h2 : d' < 1 := by have := hd'.2.1; simpa using this
      obtain rfl : d' = 0 := by omega
      exact Int.le_refl _
    · cases hd
  · split at hS
    · cases hS
    · rename_i e
      refine e ?_
      have := hd.2.2
      simpa [fedGo] using this.symm
theorem table_rng {m : List Int} {i : Nat} {M : Int → Option Int} (hm : ∀ x ∈ m, 0 ≤ x ∧ x < 64) (h : ∀ S d, M S = some d → Cand m i S d) {S d : Int} (hS : M S = some d) : 0 ≤ S ∧ S < 64 := by
  have := (h S d hS).2.2
  rw [← this]
  exact fedGo_range _ 0 0 (fun x hx => hm x (List.mem_of_mem_take hx)) (by omega) (by omega)

/-- The reference model: the first one of the least, one set of dishes after the other. -/
def leastTo (g : Int) (m : List Int) : Nat → Int
  | 0 => -1
  | k + 1 => if (feedsL g m k && (decide (leastTo g m k < 0) || decide (sz k < sz (leastTo g m k)))) = true then (k : Int) else leastTo g m k
def dishesLeastL (g : Int) (m : List Int) : Int := if menuOk g m = true then leastTo g m (2 ^ m.length) else -1
theorem leastTo_spec (g : Int) (m : List Int) : ∀ k, k ≤ 64 → (leastTo g m k = -1 ∧ ∀ d, d < k → feedsL g m (d : Nat) = false) ∨ (∃ d : Nat, d < k ∧ leastTo g m k = d ∧ feedsL g m d = true ∧ ∀ d', d' < k → feedsL g m (d' : Nat) = true → keyD d ≤ keyD d')
  | 0, _ => .inl ⟨rfl, fun d hd => absurd hd (by omega)⟩
  | k + 1, hk => by
    rw [leastTo]
    cases hf : feedsL g m k with
    | false =>
      simp only [Bool.false_and, Bool.false_eq_true, if_false]
      rcases leastTo_spec g m k (by omega) with ⟨a, b⟩ | ⟨d, a, b, c, e⟩
      · refine .inl ⟨a, fun d hd => ?_⟩
        by_cases e2 : d = k
        · subst e2; exact hf
        · exact b d (by omega)
      · refine .inr ⟨d, by omega, b, c, fun d' hd' hfd => ?_⟩
        by_cases e2 : d' = k
        · subst e2; rw [hf] at hfd; cases hfd
        · exact e d' (by omega) hfd
    | true =>
      simp only [Bool.true_and]
      have hrk := sz_range (x := (k : Int)) (by omega) (by omega)
      rcases leastTo_spec g m k (by omega) with ⟨a, b⟩ | ⟨d, a, b, c, e⟩
      · rw [a]
        refine .inr ⟨k, by omega, by simp, hf, fun d' hd' hfd => ?_⟩
        by_cases e2 : d' = k
        · subst e2; exact Int.le_refl _
        · rw [b d' (by omega)] at hfd; cases hfd
      · rw [b]
        have hd0 : ¬ ((d : Int) < 0) := by omega
        rw [decide_eq_false hd0, Bool.false_or]
        by_cases hs : sz (k : Int) < sz (d : Int)
        · rw [decide_eq_true hs, if_pos rfl]
          refine .inr ⟨k, by omega, rfl, hf, fun d' hd' hfd => ?_⟩
          by_cases e2 : d' = k
          · subst e2; exact Int.le_refl _
          · have h9 := e d' (by omega) hfd
            refine Int.le_trans ?_ h9
            unfold keyD
            generalize sz (k : Int) = a1 at *
            generalize sz (d : Int) = a2 at *
            omega
        · rw [decide_eq_false hs, if_neg (by decide)]
          refine .inr ⟨d, by omega, rfl, c, fun d' hd' hfd => ?_⟩
          by_cases e2 : d' = k
          · subst e2
            unfold keyD
            generalize sz (d' : Int) = a1 at *
            generalize sz (d : Int) = a2 at *
            omega
          · exact e d' (by omega) hfd
theorem feeds_cand {g : Int} {m : List Int} (hM : menuOk g m = true) {d : Nat} (hd : d < 2 ^ m.length) : feedsL g m d = true ↔ Cand m m.length (full g) d := by
  have hg := menuOk_g hM
  have hfr := full_range hg.1 hg.2
  have hc := pow_cast m.length
  have hin : inR (d : Int) 0 (full m.length) = true := inR_iff.2 (by unfold full; rw [Int.toNat_natCast]; omega)
  have hfed : fedL g m d = fedGo d 0 m 0 := by unfold fedL; rw [hM, hin]; rfl
  have hr := fedGo_range (d := d) m 0 0 (fun x hx => by have := menuOk_at hM hx; omega) (by omega) (by omega)
  unfold feedsL Cand
  rw [hfed, List.take_length, decide_eq_true hr.1, Bool.true_and]
  simp only [beq_iff_eq]
  exact ⟨fun h => ⟨by omega, by omega, h⟩, fun h => h.2.2⟩
theorem keyD_low : ∀ i, i < 6 → ∀ d : Int, 0 ≤ d → d < 2 ^ i → keyD (d + 2 ^ i) = keyD d + 64 + 2 ^ i := fun _ hi _ h0 h1 => key_low hi h0 h1
theorem keyD_F : ∀ a b : Int, 0 ≤ a → a < 64 → 0 ≤ b → b < 64 → fewerL a b = decide (keyD a < keyD b) := fun _ _ a b c d => fewer_key a b c d
/-- What stands in the table at all guests is what the reference model tells. -/
theorem table_least {g : Int} {m : List Int} (hM : menuOk g m = true) {M : Int → Option Int} (h : Table keyD m m.length M) : (M (full g)).getD (-1) = dishesLeastL g m := by
  have hl := menuOk_len hM
  have hp := pow_le64 (i := m.length) hl
  have hc := pow_cast m.length
  unfold dishesLeastL
  rw [if_pos hM]
  rcases leastTo_spec g m (2 ^ m.length) (by omega) with ⟨a, b⟩ | ⟨d, a, b, c, e⟩
  · rw [a]
    cases hx : M (full g) with
    | none => rfl
    | some d =>
      have hC := (h.best _ _ hx).1
      have := b d.toNat (by have := hC.2.1; omega)
      have hcd := feeds_cand hM (d := d.toNat) (by have := hC.2.1; omega)
      rw [Int.toNat_of_nonneg hC.1] at hcd this
      rw [hcd.2 hC] at this
      cases this
  · rw [b]
    have hC := (feeds_cand hM a).1 c
    cases hx : M (full g) with
    | none => exact absurd hC (h.none_ _ hx _)
    | some d' =>
      have hB := h.best _ _ hx
      have h1 := hB.2 _ hC
      have h2 := e d'.toNat (by have := hB.1.2.1; omega) (by
        have hcd := feeds_cand hM (d := d'.toNat) (by have := hB.1.2.1; omega)
        rw [Int.toNat_of_nonneg hB.1.1] at hcd
        rw [Int.toNat_of_nonneg hB.1.1]
        exact hcd.2 hB.1)
      rw [Int.toNat_of_nonneg hB.1.1] at h2
      show d' = d
      have r1 := sz_range (x := d') hB.1.1 (by have := hB.1.2.1; omega)
      have r2 := sz_range (x := (d : Int)) (by omega) (by omega)
      have q1 := hB.1.1
      have q2 := hB.1.2.1
      unfold keyD at h1 h2
      generalize sz d' = a1 at *
      generalize sz (d : Int) = a2 at *
      omega
end Go.Proofs.YthbainbgimbjeaaDoor
