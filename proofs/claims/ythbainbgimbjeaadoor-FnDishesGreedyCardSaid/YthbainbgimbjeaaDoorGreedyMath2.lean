/- A round of the dish for the most, as the law follows it; plain mathematics.
   Conditions: none. -/
import Derived.Test.YthbainbgimbjeaaDoorGreedyMath
namespace Go.Proofs.YthbainbgimbjeaaDoor
open Go.RowKit

theorem put_all : ∀ (x : Fin 64) (j : Fin 6), hasB x.val j.val = false → ∀ k : Fin 6, hasB ((x.val : Int) + 2 ^ j.val) k.val = (hasB x.val k.val || j.val == k.val) := by decide +kernel
theorem put_range : ∀ (n : Fin 7) (x : Fin 64) (j : Fin 6), hasB x.val j.val = false → j.val < n.val → (x.val : Int) ≤ full n.val → (x.val : Int) + 2 ^ j.val ≤ full n.val := by decide +kernel
theorem sz_sub_all : ∀ x y : Fin 64, (∀ k : Fin 6, hasB x.val k.val = true → hasB y.val k.val = true) → sz x.val ≤ sz y.val := by decide +kernel
theorem sz_sub {x y : Int} (h0 : 0 ≤ x) (h1 : x < 64) (k0 : 0 ≤ y) (k1 : y < 64) (h : ∀ k : Nat, k < 6 → hasB x k = true → hasB y k = true) : sz x ≤ sz y := by
  have := sz_sub_all ⟨x.toNat, by omega⟩ ⟨y.toNat, by omega⟩ (by
    intro k hk
    simp only [Int.toNat_of_nonneg h0, Int.toNat_of_nonneg k0] at hk ⊢
    exact h _ k.isLt hk)
  simpa only [Int.toNat_of_nonneg h0, Int.toNat_of_nonneg k0] using this
theorem sz_none_all : ∀ x : Fin 64, (∀ k : Fin 6, hasB x.val k.val = false) → sz x.val = 0 := by decide +kernel
theorem sz_some_all : ∀ x : Fin 64, sz x.val ≤ 0 → ∀ k : Fin 6, hasB x.val k.val = false := by decide +kernel
theorem drop_none {x y : Int} (h0 : 0 ≤ x) (h1 : x < 64) (k0 : 0 ≤ y) (k1 : y < 64) : sz (dropI x y) ≤ 0 ↔ ∀ k : Nat, k < 6 → hasB x k = true → hasB y k = true := by
  have hd := drop_range h0 h1 k0 k1
  constructor
  · intro h k hk hx
    have := sz_some_all ⟨(dropI x y).toNat, by omega⟩ (by simpa only [Int.toNat_of_nonneg hd.1] using h) ⟨k, hk⟩
    simp only [Int.toNat_of_nonneg hd.1] at this
    rw [hasB_drop h0 h1 k0 k1 k hk, hx] at this
    simpa using this
  · intro h
    have := sz_none_all ⟨(dropI x y).toNat, by omega⟩ (by
      intro k
      simp only [Int.toNat_of_nonneg hd.1]
      rw [hasB_drop h0 h1 k0 k1 k.val k.isLt]
      cases hx : hasB x k.val with
      | false => rfl
      | true => rw [h _ k.isLt hx]; rfl)
    simp only [Int.toNat_of_nonneg hd.1] at this
    rw [this]
    exact Int.le_refl _

/-- Where the law stands: the dishes chosen, who is fed by them, what a dish can still gain. -/
def Chose (_ : Int) (m : List Int) (f : Nat) (ch F last : Int) : Prop :=
  0 ≤ ch ∧ ch ≤ full m.length ∧ fedGo ch 0 m 0 = F ∧ 0 ≤ F ∧ F < 64 ∧ 7 ≤ (f : Int) + sz F ∧ ∀ e ∈ m, sz (dropI e F) ≤ last

theorem fed_bits {g ch F : Int} {m : List Int} (hM : menuOk g m = true) (hF : fedGo ch 0 m 0 = F) (k : Nat) : hasB F k = true ↔ ∃ i x, m[i]? = some x ∧ hasB ch i = true ∧ hasB x k = true := by
  rw [← hF, fed_has m 0 0 (menu64 hM) (by omega) (by omega), hasB_zero, Bool.false_or, fedAny_iff]
  simp only [Nat.zero_add]

theorem chose_round {g ch F last : Int} {m : List Int} {f : Nat} (hM : menuOk g m = true) (h : Chose g m f ch F last) :
    (greedyGo m f F = [] ∧ fedGo (full m.length) 0 m 0 = F) ∨ ∃ (j f' : Nat) (F' n : Int), f = f' + 1 ∧ j < 6 ∧ greedyGo m f F = (j : Int) :: greedyGo m f' F' ∧ hasB ch j = false ∧ sz F' - sz F = n ∧ 1 ≤ n ∧ n ≤ last ∧ Chose g m f' (ch + 2 ^ j) F' n := by
  obtain ⟨c0, c1, hF, f0, f1, hf, hla⟩ := h
  have hX := menu64 hM
  have hl := menuOk_len hM
  have hfl := fullN_len hl
  have hz := sz_range f0 f1
  obtain ⟨f', rfl⟩ : ∃ f', f = f' + 1 := ⟨f - 1, by omega⟩
  rcases best_said m F with ⟨hn, hno⟩ | ⟨j, e, he, hj, hp, hb⟩
  · refine .inl ⟨by unfold greedyGo; rw [if_pos hn], ?_⟩
    have hr := fedGo_range (d := full m.length) m 0 0 hX (by omega) (by omega)
    refine hasB_ext hr.1 hr.2 f0 f1 (fun k hk => ?_)
    rw [Bool.eq_iff_iff, fed_bits hM rfl, fed_bits hM hF]
    constructor
    · rintro ⟨i, x, hx, -, hxk⟩
      have hm := List.mem_of_getElem? hx
      exact (fed_bits hM hF k).1 ((drop_none (hX x hm).1 (hX x hm).2 f0 f1).1 (hno x hm) k hk hxk)
    · rintro ⟨i, x, hx, -, hxk⟩
      have hi : i < m.length := (List.getElem?_eq_some_iff.1 hx).1
      exact ⟨i, x, hx, full_bit ⟨m.length, by omega⟩ ⟨i, by omega⟩ hi, hxk⟩
  · have hm := List.mem_of_getElem? he
    have hx := hX e hm
    have hjl : j < m.length := (List.getElem?_eq_some_iff.1 he).1
    have hj6 : j < 6 := by omega
    have hnb : hasB ch j = false := by
      cases hc : hasB ch j with
      | false => rfl
      | true =>
        exfalso
        have : sz (dropI e F) ≤ 0 := (drop_none hx.1 hx.2 f0 f1).2 (fun k _ hk => (fed_bits hM hF k).2 ⟨j, e, he, hc, hk⟩)
        omega
    have hpa := put_all ⟨ch.toNat, by omega⟩ ⟨j, hj6⟩ (by simpa only [Int.toNat_of_nonneg c0] using hnb)
    have hpr := put_range ⟨m.length, by omega⟩ ⟨ch.toNat, by omega⟩ ⟨j, hj6⟩ (by simpa only [Int.toNat_of_nonneg c0] using hnb) hjl (by simpa only [Int.toNat_of_nonneg c0] using c1)
    simp only [Int.toNat_of_nonneg c0] at hpa hpr
    have hpj := pow_range j hj6
    have ho := orI_lt f1 hx.2
    have hso := sz_or f0 f1 hx.1 hx.2
    have hfo : fedGo (ch + 2 ^ j) 0 m 0 = orI F e := by
      have hr := fedGo_range (d := ch + 2 ^ j) m 0 0 hX (by omega) (by omega)
      refine hasB_ext hr.1 hr.2 ho.1 ho.2 (fun k hk => ?_)
      rw [hasB_orI k f0 hx.1, Bool.eq_iff_iff, fed_bits hM rfl, Bool.or_eq_true, fed_bits hM hF]
      constructor
      · rintro ⟨i, x, hx', hi, hxk⟩
        have hil : i < m.length := (List.getElem?_eq_some_iff.1 hx').1
        rw [hpa ⟨i, by omega⟩, Bool.or_eq_true, beq_iff_eq] at hi
        rcases hi with hi | hi
        · exact .inl ⟨i, x, hx', hi, hxk⟩
        · have hi : j = i := hi
          subst hi
          obtain rfl : e = x := Option.some.inj (he.symm.trans hx')
          exact .inr hxk
      · rintro (⟨i, x, hx', hi, hxk⟩ | hk')
        · have hil : i < m.length := (List.getElem?_eq_some_iff.1 hx').1
          refine ⟨i, x, hx', ?_, hxk⟩
          rw [hpa ⟨i, by omega⟩, Bool.or_eq_true]
          exact .inl hi
        · refine ⟨j, e, he, ?_, hk'⟩
          rw [hpa ⟨j, hj6⟩, Bool.or_eq_true]
          exact .inr (by simp)
    refine .inr ⟨j, f', orI F e, sz (dropI e F), rfl, hj6, ?_, hnb, ?_, ?_, hla e hm, ?_⟩
    · rw [greedyGo, if_neg (by rw [hj]; omega), hj, Int.toNat_natCast, getD_at he]
    · rw [hso]; generalize sz F = a; generalize sz (dropI e F) = b; omega
    · generalize sz (dropI e F) = b at *; omega
    · refine ⟨by omega, hpr, hfo, ho.1, ho.2, ?_, fun x hx' => ?_⟩
      · rw [hso]; generalize sz F = a at *; generalize sz (dropI e F) = b at *; omega
      · have hxx := hX x hx'
        have d1 := drop_range hxx.1 hxx.2 ho.1 ho.2
        have d2 := drop_range hxx.1 hxx.2 f0 f1
        refine Int.le_trans (sz_sub d1.1 (by omega) d2.1 (by omega) (fun k hk hd => ?_)) (hb x hx')
        rw [hasB_drop hxx.1 hxx.2 ho.1 ho.2 k hk, hasB_orI k f0 hx.1] at hd
        rw [hasB_drop hxx.1 hxx.2 f0 f1 k hk]
        revert hd
        cases hasB x k <;> cases hasB F k <;> cases hasB e k <;> decide
theorem sz_six : ∀ x : Fin 64, sz (dropI x.val 0) ≤ 6 := by decide +kernel
theorem fed_zero : ∀ (m : List Int) (k : Nat), fedGo 0 k m 0 = 0
  | [], _ => rfl
  | x :: r, k => by unfold fedGo; rw [if_neg (by rw [hasB_zero]; decide)]; exact fed_zero r (k + 1)
theorem chose_start {g : Int} {m : List Int} (hM : menuOk g m = true) : Chose g m 7 0 0 6 := by
  have hl := menuOk_len hM
  have hfl := fullN_len hl
  have hz : sz 0 = 0 := by decide +kernel
  refine ⟨Int.le_refl _, hfl.2.2, fed_zero m 0, Int.le_refl _, by omega, by rw [hz]; omega, fun e he => ?_⟩
  have hx := menu64 hM e he
  have := sz_six ⟨e.toNat, by omega⟩
  simpa only [Int.toNat_of_nonneg hx.1] using this
end Go.Proofs.YthbainbgimbjeaaDoor
