/- The dish for the most first: what each round gains, that the rounds are few; plain mathematics.
   Conditions: none. -/
import Derived.Test.YthbainbgimbjeaaDoorZ2
import Derived.Test.YthbainbgimbjeaaDoorDishMath2
namespace Go.Proofs.YthbainbgimbjeaaDoor
open Go.RowKit

/-- The best of a rest: what it gains, and that none gains more. -/
theorem bestGo_said {fed : Int} : ∀ (r : List Int) (k b mo : Int), ∃ b' mo', bestGo fed k r b mo = (b', mo') ∧ mo ≤ mo' ∧ (∀ e ∈ r, sz (dropI e fed) ≤ mo') ∧ ((b' = b ∧ mo' = mo) ∨ ∃ (j : Nat) (e : Int), r[j]? = some e ∧ b' = k + j ∧ mo' = sz (dropI e fed))
  | [], k, b, mo => ⟨b, mo, rfl, Int.le_refl _, fun e he => absurd he (by simp), .inl ⟨rfl, rfl⟩⟩
  | e :: r, k, b, mo => by
    unfold bestGo
    obtain ⟨z, hz⟩ : ∃ z, sz (dropI e fed) = z := ⟨_, rfl⟩
    rw [hz]
    by_cases h : mo < z
    · rw [if_pos h]
      obtain ⟨b', mo', he, hm, ha, hc⟩ := bestGo_said (fed := fed) r (k + 1) k z
      refine ⟨b', mo', he, by omega, fun e' he' => ?_, ?_⟩
      · rcases List.mem_cons.1 he' with rfl | he'
        · rw [hz]; exact hm
        · exact ha e' he'
      · rcases hc with ⟨h1, h2⟩ | ⟨j, e', h1, h2, h3⟩
        · exact .inr ⟨0, e, rfl, by omega, by rw [hz]; exact h2⟩
        · exact .inr ⟨j + 1, e', by simpa using h1, by omega, h3⟩
    · rw [if_neg h]
      obtain ⟨b', mo', he, hm, ha, hc⟩ := bestGo_said (fed := fed) r (k + 1) b mo
      refine ⟨b', mo', he, hm, fun e' he' => ?_, ?_⟩
      · rcases List.mem_cons.1 he' with rfl | he'
        · rw [hz]; omega
        · exact ha e' he'
      · rcases hc with h1 | ⟨j, e', h1, h2, h3⟩
        · exact .inl h1
        · exact .inr ⟨j + 1, e', by simpa using h1, by omega, h3⟩
theorem best_said (m : List Int) (fed : Int) : (bestL m fed < 0 ∧ ∀ e ∈ m, sz (dropI e fed) ≤ 0) ∨ ∃ (j : Nat) (e : Int), m[j]? = some e ∧ bestL m fed = j ∧ 0 < sz (dropI e fed) ∧ ∀ e' ∈ m, sz (dropI e' fed) ≤ sz (dropI e fed) := by
  obtain ⟨b', mo', he, hm, ha, hc⟩ := bestGo_said (fed := fed) m 0 (-1) 0
  have hb : bestL m fed = b' := by unfold bestL; rw [he]
  rw [hb]
  rcases bestL_at m fed with h | ⟨j, e, h1, h2, h3⟩
  · rw [hb] at h
    refine .inl ⟨by clear ha hc; omega, fun e hm' => ?_⟩
    rcases hc with ⟨h1, h2⟩ | ⟨j, e', h1, h2, h3⟩
    · rw [h2] at ha; exact ha e hm'
    · exfalso; clear h3 ha hm hb he; omega
  · rw [hb] at h3
    refine .inr ⟨j, e, h1, h3, h2, fun e' hm' => ?_⟩
    rcases hc with ⟨h4, h5⟩ | ⟨j', e2, h4, h5, h6⟩
    · exfalso; clear ha h2; omega
    · have : j' = j := by clear ha h2 h6; omega
      subst this
      obtain rfl : e = e2 := Option.some.inj (h1.symm.trans h4)
      rw [← h6]
      exact ha e' hm'

def cntGo (d : Int) : Nat → Nat → Int
  | _, 0 => 0
  | k, n + 1 => (if hasB d k = true then 1 else 0) + cntGo d (k + 1) n
theorem cnt_all : ∀ (d : Fin 64) (n : Fin 7), cntGo d.val 0 n.val ≤ sz d.val := by decide +kernel
theorem cnt_le {d : Int} (h0 : 0 ≤ d) (h1 : d < 64) {n : Nat} (hn : n ≤ 6) : cntGo d 0 n ≤ sz d := by
  have := cnt_all ⟨d.toNat, by omega⟩ ⟨n, by omega⟩
  simpa only [Int.toNat_of_nonneg h0] using this
theorem drop_le_all : ∀ x y : Fin 64, sz (dropI x.val y.val) ≤ sz x.val := by decide +kernel
theorem drop_le {x y : Int} (h0 : 0 ≤ x) (h1 : x < 64) (k0 : 0 ≤ y) (k1 : y < 64) : sz (dropI x y) ≤ sz x := by
  have := drop_le_all ⟨x.toNat, by omega⟩ ⟨y.toNat, by omega⟩
  simpa only [Int.toNat_of_nonneg h0, Int.toNat_of_nonneg k0] using this
theorem drop_zero_all : ∀ x : Fin 64, dropI x.val 0 = x.val := by decide +kernel
theorem drop_zero {x : Int} (h0 : 0 ≤ x) (h1 : x < 64) : dropI x 0 = x := by
  have := drop_zero_all ⟨x.toNat, by omega⟩
  simpa only [Int.toNat_of_nonneg h0] using this
theorem sz_full7 : ∀ g : Fin 7, sz (full g.val) = g.val := by decide +kernel
theorem sz_fullI {g : Int} (h0 : 0 ≤ g) (h1 : g ≤ 6) : sz (full g) = g := by
  have := sz_full7 ⟨g.toNat, by omega⟩
  simpa only [Int.toNat_of_nonneg h0] using this
theorem or_zero_all : ∀ x : Fin 64, orI 0 x.val = x.val := by decide +kernel
theorem or_zero {x : Int} (h0 : 0 ≤ x) (h1 : x < 64) : orI 0 x = x := by
  have := or_zero_all ⟨x.toNat, by omega⟩
  simpa only [Int.toNat_of_nonneg h0] using this

/-- What dishes feed together is at most as much as they feed apart. -/
theorem fed_sum {d n1 : Int} : ∀ (m : List Int) (k : Nat) (out : Int), (∀ x ∈ m, 0 ≤ x ∧ x < 64 ∧ sz x ≤ n1) → 0 ≤ out → out < 64 → sz (fedGo d k m out) ≤ sz out + n1 * cntGo d k m.length
  | [], _, out, _, _, _ => by simp [fedGo, cntGo]
  | x :: r, k, out, hm, h0, h1 => by
    have hx := hm x (by simp)
    have hr := orI_lt h1 hx.2.1
    unfold fedGo
    rw [List.length_cons, cntGo]
    cases hb : hasB d k with
    | false =>
      rw [if_neg (by decide), if_neg (by decide), Int.zero_add]
      exact fed_sum r (k + 1) out (fun y hy => hm y (by simp [hy])) h0 h1
    | true =>
      rw [if_pos rfl, if_pos rfl, Int.mul_add, Int.mul_one]
      have h2 := fed_sum (d := d) (n1 := n1) r (k + 1) (orI out x) (fun y hy => hm y (by simp [hy])) hr.1 hr.2
      have h3 := sz_or h0 h1 hx.1 hx.2.1
      have h4 := drop_le hx.1 hx.2.1 h0 h1
      have h5 := hx.2.2
      generalize sz (fedGo d (k + 1) r (orI out x)) = a at *
      generalize sz (orI out x) = b at *
      generalize sz (dropI x out) = c at *
      generalize sz x = y at *
      generalize sz out = z at *
      omega

/-- The rounds behind a set of fed guests are at most as many as the guests left. -/
theorem greedy_len_le {m : List Int} {G : Int} (hX : ∀ x ∈ m, 0 ≤ x ∧ x < 64) (hG : ∀ fed : Int, 0 ≤ fed → fed < 64 → (∀ k, hasB fed k = true → ∃ x ∈ m, hasB x k = true) → sz fed ≤ G) :
    ∀ (f : Nat) (fed : Int), 0 ≤ fed → fed < 64 → (∀ k, hasB fed k = true → ∃ x ∈ m, hasB x k = true) → ((greedyGo m f fed).length : Int) + sz fed ≤ G
  | 0, fed, h0, h1, hs => by
    have := hG fed h0 h1 hs
    simp [greedyGo]; exact this
  | f + 1, fed, h0, h1, hs => by
    unfold greedyGo
    rcases best_said m fed with ⟨hn, -⟩ | ⟨j, e, he, hj, hp, -⟩
    · rw [if_pos hn]
      have := hG fed h0 h1 hs
      simp; exact this
    · rw [if_neg (by omega), hj, Int.toNat_natCast, getD_at he]
      have hm := List.mem_of_getElem? he
      have hx := hX e hm
      have hr := orI_lt h1 hx.2
      have ih := greedy_len_le hX hG f (orI fed e) hr.1 hr.2 (fun k hk => by
        rw [hasB_orI k h0 hx.1, Bool.or_eq_true] at hk
        rcases hk with hk | hk
        · exact hs k hk
        · exact ⟨e, hm, hk⟩)
      have h3 := sz_or h0 h1 hx.1 hx.2
      rw [List.length_cons]
      generalize sz (orI fed e) = b at *
      generalize sz (dropI e fed) = c at *
      generalize sz fed = z at *
      omega
theorem sub_full_all : ∀ (g : Fin 7) (x : Fin 64), (∀ k : Fin 6, hasB x.val k.val = true → k.val < g.val) → sz x.val ≤ g.val := by decide +kernel
theorem greedy_rounds {g : Int} {m : List Int} (hM : menuOk g m = true) (f : Nat) {fed : Int} (h0 : 0 ≤ fed) (h1 : fed < 64) (hs : ∀ k, hasB fed k = true → ∃ x ∈ m, hasB x k = true) : ((greedyGo m f fed).length : Int) + sz fed ≤ g := by
  have hg := menuOk_g hM
  refine greedy_len_le (menu64 hM) (fun e e0 e1 he => ?_) f fed h0 h1 hs
  have := sub_full_all ⟨g.toNat, by omega⟩ ⟨e.toNat, by omega⟩ (by
    intro k hk
    simp only [Int.toNat_of_nonneg e0] at hk
    obtain ⟨x, hx, hb⟩ := he _ hk
    have := full_hasB hg.1 hg.2 (menuOk_at hM hx).1 (menuOk_at hM hx).2.1 k.isLt hb
    show k.val < g.toNat
    omega)
  simpa only [Int.toNat_of_nonneg e0, Int.toNat_of_nonneg hg.1] using this
theorem quot_bound {len g n q : Int} (h1 : len ≤ 1 + (g - n)) (h2 : g ≤ n * q) (h3 : len ≤ g) (h4 : g ≤ 6) (h0 : 0 ≤ q) (_ : 0 < n) : 20 * len ≤ 49 * q := by
  by_cases h : 3 ≤ q
  · omega
  · have hq : q = 0 ∨ q = 1 ∨ q = 2 := by omega
    rcases hq with rfl | rfl | rfl <;> omega
/-- 20 times as many are at most 49 times the fewest. -/
theorem greedy_near {g : Int} {m : List Int} (h : 0 ≤ dishesLeastL g m) : 20 * ((greedyL g m).length : Int) ≤ 49 * sz (dishesLeastL g m) := by
  obtain ⟨hF, hM⟩ := least_feeds h
  have hg := menuOk_g hM
  have hl := menuOk_len hM
  have hS := (least_said hF).2.2.2
  have hr := sz_range h hS
  generalize dishesLeastL g m = d at *
  have hX := menu64 hM
  have hgr : greedyL g m = greedyGo m 7 0 := by unfold greedyL; rw [if_pos hM]
  rw [hgr]
  have hz : sz 0 = 0 := by decide +kernel
  have h3 := greedy_rounds hM 7 (Int.le_refl 0) (by omega) (fun k hk => by rw [hasB_zero] at hk; simp at hk)
  rw [hz] at h3
  have hfe : fedGo d 0 m 0 = full g := by
    have := hF
    unfold feedsL fedL at this
    rw [Bool.and_eq_true, beq_iff_eq] at this
    have h2 := this.2
    split at h2
    · exact h2
    · have := full_range hg.1 hg.2; omega
  unfold greedyGo at h3 ⊢
  rcases best_said m 0 with ⟨hn, -⟩ | ⟨j, e, he, hj, hp, hb⟩
  · rw [if_pos hn]
    simp; omega
  · rw [if_neg (by omega)] at h3 ⊢
    rw [hj, Int.toNat_natCast, getD_at he] at h3 ⊢
    have hm := List.mem_of_getElem? he
    have hx := hX e hm
    rw [or_zero hx.1 hx.2] at h3 ⊢
    rw [drop_zero hx.1 hx.2] at hp hb
    have h2 := greedy_rounds hM 6 hx.1 hx.2 (fun k hk => ⟨e, hm, hk⟩)
    have h5 := fed_sum (d := d) (n1 := sz e) m 0 0 (fun x hx' => ⟨(hX x hx').1, (hX x hx').2, by
      have := hb x hx'
      rwa [drop_zero (hX x hx').1 (hX x hx').2] at this⟩) (by omega) (by omega)
    rw [hfe, sz_fullI hg.1 hg.2, hz, Int.zero_add] at h5
    have h6 := cnt_le h hS hl
    have h7 : sz e * cntGo d 0 m.length ≤ sz e * sz d := Int.mul_le_mul_of_nonneg_left h6 (by omega)
    rw [List.length_cons] at h3 ⊢
    refine quot_bound (g := g) (n := sz e) ?_ (by omega) (by omega) hg.2 hr.1 hp
    generalize sz e = y at *
    push_cast
    omega
end Go.Proofs.YthbainbgimbjeaaDoor
