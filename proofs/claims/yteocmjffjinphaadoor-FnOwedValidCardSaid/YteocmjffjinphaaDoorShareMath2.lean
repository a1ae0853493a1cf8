/- Shares to the last cent: what the parts are together, how near each is to the exact one, and that a greater share never gets less.
   Conditions: none beyond each statement's own. -/
import Derived.Test.YteocmjffjinphaaDoorShareMath
import Derived.Test.YteocmjffjinphaaDoorOrders0
namespace Go.Proofs.YteocmjffjinphaaDoor
open Go.RowKit

theorem take_before {R : Int → Int → Prop} (asym : ∀ {a b}, R a b → R b a → False) {l : List Int} {m : Nat} (hp : l.Pairwise R) {a b : Int} (ha : a ∈ l) (hb : b ∈ l.take m) (hR : R a b) : a ∈ l.take m := by
  rw [← List.take_append_drop m l] at ha hp
  rcases List.mem_append.1 ha with h | h
  · exact h
  · exact (asym hR ((List.pairwise_append.1 hp).2.2 b hb a h)).elim
theorem lex_nodup {key : Int → Int} {l : List Int} (h : l.Pairwise (lexLt key)) : l.Nodup := h.imp (fun hab e => by subst e; exact lexLt_irrefl hab)
theorem gfL_sorted (xs : List Int) : (gfL xs).Pairwise (lexLt (negKey xs)) := sortBy_sorted _ _
theorem gfL_nodup (xs : List Int) : (gfL xs).Nodup := lex_nodup (gfL_sorted xs)
theorem tab_getDs (xs : List Int) : tab xs.length (fun i => xs.getD i 0) = xs := by
  apply List.ext_getElem?
  intro i
  unfold tab
  by_cases h : i < xs.length
  · simp [h]
  · simp [h]
theorem gfL_sum (xs : List Int) : sumL ((gfL xs).map (fun i => xs.getD i.toNat 0)) = sumL xs := by
  rw [sum_all (f := fun i => xs.getD i.toNat 0) xs.length (gfL xs) (gfL_nodup xs) (fun x hx => gfL_mem.1 hx) (gfL_len xs)]
  exact congrArg sumL ((tab_congr (fun i _ => by simp)).trans (tab_getDs xs))

theorem bump_getD {ps : List Int} {i : Int} {a : Nat} (h0 : 0 ≤ i) (h1 : i < ps.length) : (bump ps i).getD a 0 = ps.getD a 0 + (if i = a then 1 else 0) := by
  obtain ⟨k, rfl⟩ : ∃ k : Nat, i = k := ⟨i.toNat, by omega⟩
  have hk : k < ps.length := by omega
  unfold bump
  simp only [Int.toNat_natCast, List.getD_eq_getElem?_getD, List.getElem?_set]
  by_cases e : k = a
  · subst e; simp [hk]
  · have : ¬ (k : Int) = a := by omega
    simp [e, this]
theorem sumL_setS {ps : List Int} : ∀ {k : Nat} {v : Int}, k < ps.length → sumL (ps.set k v) = sumL ps - ps.getD k 0 + v := by
  induction ps with
  | nil => intro k v h; simp at h
  | cons x r ih =>
    intro k v h
    cases k with
    | zero => simp [sumL]; omega
    | succ k =>
      have h2 : k < r.length := by simpa using h
      simp only [List.set_cons_succ, sumL, List.getD_cons_succ]
      rw [ih h2]
      omega
theorem bumpAll_len' : ∀ (is ps : List Int), (bumpAll ps is).length = ps.length
  | [], ps => rfl
  | i :: r, ps => by
    show (bumpAll (bump ps i) r).length = ps.length
    rw [bumpAll_len' r]
    simp [bump]
theorem bumpAll_getD : ∀ (is ps : List Int) (a : Nat), is.Nodup → (∀ i ∈ is, 0 ≤ i ∧ i < ps.length) → (bumpAll ps is).getD a 0 = ps.getD a 0 + (if (a : Int) ∈ is then 1 else 0)
  | [], ps, a, _, _ => by simp [bumpAll]
  | i :: r, ps, a, hn, h => by
    have hi := h i (by simp)
    have hnr := List.nodup_cons.1 hn
    show (bumpAll (bump ps i) r).getD a 0 = _
    rw [bumpAll_getD r (bump ps i) a hnr.2 (fun j hj => by have := h j (by simp [hj]); simpa [bump] using this), bump_getD hi.1 hi.2]
    by_cases e : i = a
    · subst e
      have : ¬ (a : Int) ∈ r := hnr.1
      simp [this]
    · have e' : ¬ (a : Int) = i := fun h => e h.symm
      by_cases hr : (a : Int) ∈ r <;> simp [e, e', hr]
theorem bumpAll_sum : ∀ (is ps : List Int), (∀ i ∈ is, 0 ≤ i ∧ i < ps.length) → sumL (bumpAll ps is) = sumL ps + is.length
  | [], ps, _ => by simp [bumpAll]
  | i :: r, ps, h => by
    have hi := h i (by simp)
    show sumL (bumpAll (bump ps i) r) = _
    rw [bumpAll_sum r (bump ps i) (fun j hj => by have := h j (by simp [hj]); simpa [bump] using this)]
    have : sumL (bump ps i) = sumL ps + 1 := by
      unfold bump
      rw [sumL_setS (by omega)]
      omega
    rw [this, List.length_cons]
    omega
theorem sumL_le_mul {l : List Int} {c : Int} (h : ∀ x ∈ l, x ≤ c) : sumL l ≤ c * l.length := by
  induction l with
  | nil => simp [sumL]
  | cons x r ih =>
    have := ih (fun y hy => h y (by simp [hy]))
    have hx := h x (by simp)
    simp only [sumL, List.length_cons, Int.natCast_add, Int.natCast_one, Int.mul_add, Int.mul_one]
    omega

/-- What the law says of one part. -/
structure ShareSaid (xs : List Int) (s : Int) (ps : List Int) : Prop where
  len : ps.length = xs.length
  sum : sumL ps = s
  near : ∀ a : Nat, a < xs.length → ps.getD a 0 * sumL xs - s * xs.getD a 0 < sumL xs ∧ -(sumL xs) < ps.getD a 0 * sumL xs - s * xs.getD a 0
  none : ∀ a : Nat, a < xs.length → xs.getD a 0 = 0 → ps.getD a 0 = 0
  mono : ∀ a b : Nat, a < xs.length → b < xs.length → xs.getD b 0 < xs.getD a 0 → ps.getD b 0 ≤ ps.getD a 0
  rng : ∀ p ∈ ps, 0 ≤ p ∧ p ≤ 9999

theorem sumL_mem_le {l : List Int} (h : ∀ x ∈ l, 0 ≤ x) {x : Int} (hx : x ∈ l) : x ≤ sumL l := by
  induction l with
  | nil => cases hx
  | cons y r ih =>
    have hr : 0 ≤ sumL r := by
      clear ih hx
      have h' : ∀ x ∈ r, 0 ≤ x := fun x hx => h x (by simp [hx])
      clear h
      induction r with
      | nil => simp [sumL]
      | cons z t ih =>
        have := ih (fun x hx => h' x (by simp [hx]))
        have := h' z (by simp)
        simp only [sumL]; omega
    have hy := h y (by simp)
    simp only [sumL]
    rcases List.mem_cons.1 hx with rfl | hx
    · omega
    · have := ih (fun z hz => h z (by simp [hz])) hx
      omega

theorem share_said {xs : List Int} {s : Int} (h : ShOk xs s) : ShareSaid xs s (bumpAll (partsL xs s) ((gfL (remsL xs s)).take (leftL xs s).toNat)) := by
  obtain ⟨m, hm⟩ : ∃ m : Nat, leftL xs s = m := ⟨(leftL xs s).toNat, by have := h.left.1; omega⟩
  have hmlt : m < xs.length := by have := h.left.2.1; omega
  rw [hm, Int.toNat_natCast]
  obtain ⟨t, ht⟩ : ∃ t, sumL xs = t := ⟨_, rfl⟩
  have ht1 : 1 ≤ t := ht ▸ h.t1
  obtain ⟨l, hl⟩ : ∃ l, gfL (remsL xs s) = l := ⟨_, rfl⟩
  have hln : l.Nodup := hl ▸ gfL_nodup _
  have hlm : ∀ x, x ∈ l ↔ 0 ≤ x ∧ x < xs.length := fun x => by rw [← hl, gfL_mem, remsL_len]
  have hlp : l.Pairwise (lexLt (negKey (remsL xs s))) := hl ▸ gfL_sorted _
  have hll : l.length = xs.length := by rw [← hl, gfL_len, remsL_len]
  rw [hl]
  have htk : ∀ x ∈ l.take m, 0 ≤ x ∧ x < xs.length := fun x hx => (hlm x).1 (List.mem_of_mem_take hx)
  have htl : (l.take m).length = m := by rw [List.length_take]; omega
  have pg : ∀ a : Nat, a < xs.length → (partsL xs s).getD a 0 = partI s t (xs.getD a 0) := fun a ha => by
    unfold partsL; rw [ht]; simp [ha]
  have rg : ∀ a : Nat, a < xs.length → (remsL xs s).getD a 0 = remI s t (xs.getD a 0) := fun a ha => by
    unfold remsL; rw [ht]; simp [ha]
  have xr : ∀ a : Nat, a < xs.length → 0 ≤ xs.getD a 0 := fun a ha => by
    have := h.rng xs[a] (List.getElem_mem ha)
    simpa [ha] using this.1
  have pr : ∀ a : Nat, a < xs.length → t * (partsL xs s).getD a 0 + (remsL xs s).getD a 0 = s * xs.getD a 0 ∧ 0 ≤ (remsL xs s).getD a 0 ∧ (remsL xs s).getD a 0 ≤ t - 1 ∧ 0 ≤ (partsL xs s).getD a 0 := fun a ha => by
    rw [pg a ha, rg a ha]
    have := part_rem (s := s) (t := t) (x := xs.getD a 0) (Int.mul_nonneg h.s0 (xr a ha)) ht1
    exact ⟨this.1, this.2.1, this.2.2.1, this.2.2.2.1⟩
  -- all the rests are together as many times t as are left
  have hrs : sumL (remsL xs s) = t * m := by
    have := (sums_split (s := s) (t := t) ht1 h.s0 xs (fun x hx => (h.rng x hx).1)).1
    have e1 : partsL xs s = xs.map (partI s t) := by unfold partsL; rw [ht]
    have e2 : remsL xs s = xs.map (remI s t) := by unfold remsL; rw [ht]
    rw [← e1, ← e2, ht] at this
    have hm2 : (m : Int) = s - sumL (partsL xs s) := hm.symm
    rw [hm2, Int.mul_sub, Int.mul_comm t s]
    omega
  have hpos : ∀ a : Nat, (a : Int) ∈ l.take m → 0 < (remsL xs s).getD a 0 := fun a ha => by
    refine Classical.byContradiction fun hn => ?_
    have har := htk a ha
    have hz : (remsL xs s).getD a 0 = 0 := by
      have := (pr a (by omega)).2.1
      omega
    -- who is behind it has no rest
    have hsum : sumL (l.map (fun i => (remsL xs s).getD i.toNat 0)) = t * m := by
      rw [← hrs, ← hl]; exact gfL_sum _
    rw [← List.take_append_drop m l, List.map_append, sumL_app] at hsum
    have hd : sumL ((l.drop m).map (fun i => (remsL xs s).getD i.toNat 0)) ≤ 0 := by
      have hle : ∀ x ∈ (l.drop m).map (fun i => (remsL xs s).getD i.toNat 0), x ≤ 0 := fun x hx => by
        obtain ⟨j, hj, rfl⟩ := List.mem_map.1 hx
        have hp2 := hlp
        rw [← List.take_append_drop m l] at hp2
        have := (List.pairwise_append.1 hp2).2.2 _ ha j hj
        unfold lexLt negKey at this
        rw [Int.toNat_natCast, hz] at this
        show (remsL xs s).getD j.toNat 0 ≤ 0
        omega
      have := sumL_le_mul hle
      rwa [Int.zero_mul] at this
    have ht2 : sumL ((l.take m).map (fun i => (remsL xs s).getD i.toNat 0)) ≤ (t - 1) * m := by
      have hle : ∀ x ∈ (l.take m).map (fun i => (remsL xs s).getD i.toNat 0), x ≤ t - 1 := fun x hx => by
        obtain ⟨j, hj, rfl⟩ := List.mem_map.1 hx
        have hjr := htk j hj
        exact (pr j.toNat (by omega)).2.2.1
      have := sumL_le_mul hle
      rwa [List.length_map, htl] at this
    rw [Int.sub_mul, Int.one_mul] at ht2
    have hm0 : 0 < m := by
      rcases Nat.eq_zero_or_pos m with e | e
      · subst e; simp at ha
      · exact e
    omega
  have hq : ∀ a : Nat, (bumpAll (partsL xs s) (l.take m)).getD a 0 = (partsL xs s).getD a 0 + (if (a : Int) ∈ l.take m then 1 else 0) := fun a =>
    bumpAll_getD (l.take m) (partsL xs s) a (hln.sublist (List.take_sublist m l)) (fun i hi => by rw [partsL_len]; exact htk i hi)
  have hsumq : sumL (bumpAll (partsL xs s) (l.take m)) = s := by
    rw [bumpAll_sum _ _ (fun i hi => by rw [partsL_len]; exact htk i hi), htl]
    have hm2 : (m : Int) = s - sumL (partsL xs s) := hm.symm
    omega
  have hnn : ∀ p ∈ bumpAll (partsL xs s) (l.take m), 0 ≤ p := fun p hp => by
    obtain ⟨a, ha, rfl⟩ := List.mem_iff_getElem.1 hp
    rw [bumpAll_len', partsL_len] at ha
    have h1 := hq a
    have h2 := (pr a ha).2.2.2
    rw [List.getD_eq_getElem?_getD, List.getElem?_eq_getElem (by rw [bumpAll_len', partsL_len]; exact ha), Option.getD_some] at h1
    rw [h1]
    by_cases e : (a : Int) ∈ l.take m <;> simp only [e, if_true, if_false] <;> omega
  refine ⟨by rw [bumpAll_len', partsL_len], hsumq, fun a ha => ?_, fun a ha hx => ?_, fun a b ha hb hab => ?_, fun p hp => ⟨hnn p hp, ?_⟩⟩
  · rw [hq a, ht]
    have hp := pr a ha
    rw [Int.add_mul, Int.mul_comm _ t]
    by_cases e : (a : Int) ∈ l.take m
    · have := hpos a e
      rw [if_pos e, Int.one_mul]
      omega
    · rw [if_neg e, Int.zero_mul]
      omega
  · rw [hq a]
    have hp := pr a ha
    rw [hx, Int.mul_zero] at hp
    have hge : 0 ≤ t * (partsL xs s).getD a 0 := Int.mul_nonneg (by omega) hp.2.2.2
    have hr0 : (remsL xs s).getD a 0 = 0 := by omega
    have ht0 : t * (partsL xs s).getD a 0 = 0 := by omega
    have hp0 : (partsL xs s).getD a 0 = 0 := by
      rcases Int.mul_eq_zero.1 ht0 with e | e
      · omega
      · exact e
    have hne : ¬ (a : Int) ∈ l.take m := fun e => by have := hpos a e; omega
    rw [hp0, if_neg hne]
    rfl
  · rw [hq a, hq b]
    have hpa := pr a ha
    have hpb := pr b hb
    have hsx : s * xs.getD b 0 ≤ s * xs.getD a 0 := Int.mul_le_mul_of_nonneg_left (by omega) h.s0
    have hfl : (partsL xs s).getD b 0 ≤ (partsL xs s).getD a 0 := by
      rcases Int.lt_or_le ((partsL xs s).getD a 0) ((partsL xs s).getD b 0) with c | c
      · have : t * ((partsL xs s).getD a 0 + 1) ≤ t * (partsL xs s).getD b 0 := Int.mul_le_mul_of_nonneg_left (by omega) (by omega)
        rw [Int.mul_add, Int.mul_one] at this
        omega
      · exact c
    by_cases eb : (b : Int) ∈ l.take m
    · have hbp := hpos b eb
      rcases Int.lt_or_le ((partsL xs s).getD b 0) ((partsL xs s).getD a 0) with c | c
      · by_cases ea : (a : Int) ∈ l.take m <;> simp only [ea, eb, if_true, if_false] <;> omega
      · have he : (partsL xs s).getD a 0 = (partsL xs s).getD b 0 := by omega
        have hs0 : 0 < s := by
          rcases Int.lt_or_le 0 s with c | c
          · exact c
          · have : s = 0 := by have := h.s0; omega
            rw [this, Int.zero_mul] at hpb
            have : 0 ≤ t * (partsL xs s).getD b 0 := Int.mul_nonneg (by omega) (by rw [this] at *; exact hpb.2.2.2)
            subst s
            omega
        have hlt : s * xs.getD b 0 < s * xs.getD a 0 := Int.mul_lt_mul_of_pos_left hab hs0
        have hrr : (remsL xs s).getD b 0 < (remsL xs s).getD a 0 := by
          rw [he] at hpa
          omega
        have ea : (a : Int) ∈ l.take m := take_before (R := lexLt (negKey (remsL xs s))) (fun h k => lexLt_asymm h k) hlp ((hlm a).2 (by omega)) eb (.inl (by
          unfold negKey
          rw [Int.toNat_natCast, Int.toNat_natCast]
          omega))
        simp only [ea, eb, if_true]
        omega
    · by_cases ea : (a : Int) ∈ l.take m <;> simp only [ea, eb, if_true, if_false] <;> omega
  · have := sumL_mem_le hnn hp
    rw [hsumq] at this
    have := h.s1
    omega
end Go.Proofs.YteocmjffjinphaaDoor
