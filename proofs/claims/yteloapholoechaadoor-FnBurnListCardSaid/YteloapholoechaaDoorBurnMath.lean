/- The least end of spans on burners: the mathematics of BurnLeast, BurnEnd and BurnList.
   Conditions: in each statement. -/
import Derived.Test.YteloapholoechaaDoorCook5
namespace Go.Proofs.YteloapholoechaaDoor

/-- One span more on a burner. -/
def addAt (bs : List Int) (q : Nat) (s : Int) : List Int := bs.set q (bs.getD q 0 + s)
/-- The least end from what the burners are busy already. -/
def leastG : List Int → List Int → Int
  | [], bs => maxFrom 0 bs
  | s :: r, bs => minFrom (maxFrom 0 bs + (s + sumL r)) ((List.range bs.length).map (fun q => leastG r (addAt bs q s)))
def burnLeastL (spans : List Int) (b : Int) : Int := if burnFit spans b = true then leastG spans (tab b.toNat (fun _ => 0)) else -1
def putAll : List Int → List Int → List Int → List Int
  | bs, o :: on, s :: r => putAll (addAt bs o.toNat s) on r
  | bs, _, _ => bs

theorem addAt_len (bs : List Int) (q : Nat) (s : Int) : (addAt bs q s).length = bs.length := by unfold addAt; rw [List.length_set]
theorem getD_addAt {bs : List Int} {q : Nat} (s : Int) (hq : q < bs.length) (j : Nat) : (addAt bs q s).getD j 0 = bs.getD j 0 + if j = q then s else 0 := by
  unfold addAt
  simp only [List.getD_eq_getElem?_getD, List.getElem?_set]
  by_cases e : q = j
  · subst e
    rw [if_pos rfl, if_pos hq, if_pos rfl, List.getElem?_eq_getElem hq]
    simp
  · rw [if_neg e, if_neg (Ne.symm e)]
    omega
theorem putAll_tab {n : Nat} : ∀ (on spans bs : List Int), bs.length = n → (∀ o ∈ on, 0 ≤ o ∧ o < n) → putAll bs on spans = tab n (fun j => bs.getD j 0 + loadGo j on spans) := by
  intro on
  induction on with
  | nil =>
    intro spans bs hb _
    apply List.ext_getElem?
    intro i
    by_cases hi : i < n
    · rw [tab_at hi]; unfold putAll loadGo; simp [hb, hi]
    · rw [List.getElem?_eq_none (by rw [putAll.eq_def]; simp; omega), List.getElem?_eq_none (by rw [tab_len]; omega)]
  | cons o on ih =>
    intro spans bs hb ho
    cases spans with
    | nil =>
      apply List.ext_getElem?
      intro i
      by_cases hi : i < n
      · rw [tab_at hi]; unfold putAll loadGo; simp [hb, hi]
      · rw [List.getElem?_eq_none (by rw [putAll.eq_def]; simp; omega), List.getElem?_eq_none (by rw [tab_len]; omega)]
    | cons s r =>
      have h0 := ho o (by simp)
      rw [putAll, ih r (addAt bs o.toNat s) (by rw [addAt_len]; exact hb) (fun x hx => ho x (by simp [hx]))]
      refine tab_congr (fun j hj => ?_)
      rw [getD_addAt s (by omega) j, loadGo]
      by_cases e : o = j
      · rw [if_pos e, if_pos (by omega)]; omega
      · rw [if_neg e, if_neg (by omega)]; omega
theorem putAll_zero {n : Nat} {on spans : List Int} (ho : ∀ o ∈ on, 0 ≤ o ∧ o < n) : putAll (tab n (fun _ => 0)) on spans = tab n (fun j => loadGo j on spans) := by
  rw [putAll_tab on spans _ (tab_len _ _) ho]
  refine tab_congr (fun j hj => ?_)
  have : (tab n (fun _ => (0 : Int))).getD j 0 = 0 := by rw [List.getD_eq_getElem?_getD, tab_at hj]; rfl
  omega
theorem leastG_le_put : ∀ (spans on bs : List Int), on.length = spans.length → (∀ o ∈ on, 0 ≤ o ∧ o < bs.length) → leastG spans bs ≤ maxFrom 0 (putAll bs on spans) := by
  intro spans
  induction spans with
  | nil => intro on bs hl _; obtain rfl : on = [] := List.eq_nil_of_length_eq_zero hl; exact Int.le_refl _
  | cons s r ih =>
    intro on bs hl ho
    cases on with
    | nil => simp at hl
    | cons o on =>
      have h0 := ho o (by simp)
      rw [leastG, putAll]
      refine Int.le_trans ((minFrom_le _ _).2 (leastG r (addAt bs o.toNat s)) (List.mem_map.2 ⟨o.toNat, List.mem_range.2 (by omega), rfl⟩)) ?_
      exact ih on _ (by simpa using hl) (fun x hx => by rw [addAt_len]; exact ho x (by simp [hx]))
theorem leastG_le_sum : ∀ (spans bs : List Int), leastG spans bs ≤ maxFrom 0 bs + sumL spans
  | [], bs => by rw [leastG, sumL]; omega
  | s :: r, bs => by rw [leastG, sumL]; exact (minFrom_le _ _).1
theorem maxFrom_addAt {bs : List Int} {q : Nat} {s : Int} (hs : 0 ≤ s) : maxFrom 0 (addAt bs q s) ≤ maxFrom 0 bs + s := by
  have h0 := (maxFrom_le bs 0)
  rcases maxFrom_mem (addAt bs q s) 0 with h | h
  · rw [h]; omega
  · unfold addAt at h
    rcases List.mem_or_eq_of_mem_set h with h | h
    · have := h0.2 _ h
      unfold addAt; omega
    · unfold addAt
      rw [h]
      have : bs.getD q 0 ≤ maxFrom 0 bs := by
        rw [List.getD_eq_getElem?_getD]
        cases e : bs[q]? with
        | none => exact h0.1
        | some x => exact h0.2 x (List.mem_of_getElem? e)
      omega
theorem leastG_at : ∀ (spans bs : List Int), 0 < bs.length → (∀ s ∈ spans, 0 ≤ s) → ∃ on : List Int, on.length = spans.length ∧ (∀ o ∈ on, 0 ≤ o ∧ o < bs.length) ∧ leastG spans bs = maxFrom 0 (putAll bs on spans) := by
  intro spans
  induction spans with
  | nil => intro bs _ _; exact ⟨[], rfl, fun o ho => by simp at ho, rfl⟩
  | cons s r ih =>
    intro bs hb hs
    have key : ∃ q, q < bs.length ∧ leastG (s :: r) bs = leastG r (addAt bs q s) := by
      rw [leastG]
      rcases minFrom_mem ((List.range bs.length).map (fun q => leastG r (addAt bs q s))) (maxFrom 0 bs + (s + sumL r)) with h | h
      · refine ⟨0, hb, ?_⟩
        have a := (minFrom_le ((List.range bs.length).map (fun q => leastG r (addAt bs q s))) (maxFrom 0 bs + (s + sumL r))).2 (leastG r (addAt bs 0 s)) (List.mem_map.2 ⟨0, List.mem_range.2 hb, rfl⟩)
        have b := leastG_le_sum r (addAt bs 0 s)
        have c := maxFrom_addAt (bs := bs) (q := 0) (hs s (by simp))
        omega
      · obtain ⟨q, hq, e⟩ := List.mem_map.1 h
        exact ⟨q, List.mem_range.1 hq, e.symm⟩
    obtain ⟨q, hq, e⟩ := key
    obtain ⟨on, h1, h2, h3⟩ := ih (addAt bs q s) (by rw [addAt_len]; exact hb) (fun x hx => hs x (by simp [hx]))
    rw [addAt_len] at h2
    refine ⟨(q : Int) :: on, by simp [h1], fun o ho => ?_, ?_⟩
    · rcases List.mem_cons.1 ho with rfl | ho
      · omega
      · exact h2 o ho
    · rw [e, h3, putAll]
      simp
theorem tab_nn {n : Nat} : ∀ x ∈ tab n (fun _ => (0 : Int)), x = 0 := fun x hx => by
  obtain ⟨_, _, rfl⟩ := List.mem_map.1 hx
  rfl
theorem burnOk_rng {on : List Int} {n : Nat} (h : rangeOk ((n : Int) - 1) on = true) : ∀ o ∈ on, 0 ≤ o ∧ o < n := fun o ho => by
  obtain ⟨i, hi⟩ := List.getElem?_of_mem ho
  have := rangeOk_at h hi
  omega
theorem spans_rng {spans : List Int} (h : spansOk spans = true) : ∀ s ∈ spans, 0 ≤ s ∧ s ≤ 30 := fun s hs => by
  obtain ⟨i, hi⟩ := List.getElem?_of_mem hs
  exact rangeOk_at (spansOk_range h) hi
theorem burnLeast_le {spans on : List Int} {b : Int} (h : burnOkL spans b on = true) : burnLeastL spans b ≤ burnEndL spans b on := by
  obtain ⟨h1, h2, h3, n, rfl, hn1, hn3⟩ := burnOkL_parts h
  have hf : burnFit spans n = true := by unfold burnOkL at h; simp only [Bool.and_eq_true] at h; exact h.1
  unfold burnLeastL burnEndL
  rw [if_pos hf, if_pos h]
  have := leastG_le_put spans on (tab n (fun _ => 0)) h2 (by rw [tab_len]; exact burnOk_rng h3)
  rwa [putAll_zero (burnOk_rng h3)] at this
theorem burnLeast_at {spans : List Int} {b : Int} (h : burnFit spans b = true) : ∃ on, burnOkL spans b on = true ∧ burnLeastL spans b = burnEndL spans b on := by
  obtain ⟨h1, n, rfl, hn1, hn3⟩ := burnFit_parts h
  obtain ⟨on, k1, k2, k3⟩ := leastG_at spans (tab n (fun _ => 0)) (by rw [tab_len]; omega) (fun s hs => (spans_rng h1 s hs).1)
  rw [tab_len] at k2
  have hok : burnOkL spans n on = true := by
    unfold burnOkL
    rw [h, decide_eq_true (by omega)]
    unfold rangeOk
    simp only [Bool.true_and, List.all_eq_true]
    intro o ho
    have := k2 o ho
    exact inR_iff.2 (by omega)
  refine ⟨on, hok, ?_⟩
  unfold burnLeastL burnEndL
  rw [if_pos h, if_pos hok]
  show leastG spans (tab n (fun _ => 0)) = maxFrom 0 (tab n (fun j => loadGo j on spans))
  rw [k3, putAll_zero k2]
theorem burnEnd_nn {spans on : List Int} {b : Int} (h : burnOkL spans b on = true) : 0 ≤ burnEndL spans b on ∧ burnEndL spans b on ≤ 180 := by
  obtain ⟨h1, h2, h3, n, rfl, hn1, hn3⟩ := burnOkL_parts h
  unfold burnEndL
  rw [if_pos h]
  have hl := spansOk_len h1
  refine ⟨(maxFrom_le _ _).1, ?_⟩
  rcases maxFrom_mem (tab (n : Int).toNat (fun j => loadGo j on spans)) 0 with e | e
  · omega
  · obtain ⟨j, _, e'⟩ := List.mem_map.1 e
    have := (loadGo_range (j := (j : Int)) (on := on) (spans := spans) (spans_rng h1)).2
    omega
theorem burnLeast_nn {spans : List Int} {b : Int} (h : burnFit spans b = true) : 0 ≤ burnLeastL spans b ∧ burnLeastL spans b ≤ 180 := by
  obtain ⟨on, h1, h2⟩ := burnLeast_at h
  rw [h2]
  exact burnEnd_nn h1
/-- The digits of a number, the least one first. -/
def digs (n : Nat) : Nat → Nat → List Int
  | 0, _ => []
  | k + 1, m => ((m % n : Nat) : Int) :: digs n k (m / n)
theorem digs_len (n : Nat) : ∀ (k m : Nat), (digs n k m).length = k
  | 0, _ => rfl
  | k + 1, m => by rw [digs, List.length_cons, digs_len n k]
theorem digs_rng {n : Nat} (hn : 1 ≤ n) : ∀ (k m : Nat), ∀ o ∈ digs n k m, 0 ≤ o ∧ o < n
  | 0, _ => fun o ho => by simp [digs] at ho
  | k + 1, m => fun o ho => by
    rw [digs] at ho
    rcases List.mem_cons.1 ho with rfl | ho
    · have := Nat.mod_lt m (show n > 0 by omega)
      omega
    · exact digs_rng hn k _ o ho
theorem digs_all {n : Nat} (hn : 1 ≤ n) : ∀ on : List Int, (∀ o ∈ on, 0 ≤ o ∧ o < n) → ∃ m, m < n ^ on.length ∧ digs n on.length m = on
  | [], _ => ⟨0, by simp, rfl⟩
  | o :: r, h => by
    obtain ⟨m, h1, h2⟩ := digs_all hn r (fun x hx => h x (by simp [hx]))
    have h0 := h o (by simp)
    refine ⟨o.toNat + n * m, ?_, ?_⟩
    · rw [List.length_cons, Nat.pow_succ]
      have : n * (m + 1) ≤ n * n ^ r.length := Nat.mul_le_mul_left n h1
      rw [Nat.mul_add] at this
      rw [Nat.mul_comm (n ^ r.length) n]
      omega
    · rw [List.length_cons, digs, Nat.add_mul_mod_self_left, Nat.mod_eq_of_lt (by omega), Nat.add_mul_div_left _ _ (by omega), Nat.div_eq_of_lt (by omega), Nat.zero_add, h2]
      congr 1
      omega
/-- The least of the first ends; -1 at first. -/
def bestTo (E : Nat → Int) : Nat → Int
  | 0 => -1
  | m + 1 => if (decide (bestTo E m < 0) || decide (E m < bestTo E m)) = true then E m else bestTo E m
theorem bestTo_spec {E : Nat → Int} {M : Nat} (hE : ∀ m, m < M → 0 ≤ E m) : ∀ m, m ≤ M → 0 < m → 0 ≤ bestTo E m ∧ (∀ k, k < m → bestTo E m ≤ E k) ∧ ∃ k, k < m ∧ bestTo E m = E k
  | 0, _, h => absurd h (by omega)
  | m + 1, hm, _ => by
    have h0 := hE m (by omega)
    rw [bestTo]
    by_cases h : m = 0
    · subst h
      rw [if_pos (by simp [bestTo])]
      exact ⟨h0, fun k hk => by obtain rfl : k = 0 := (by omega); exact Int.le_refl _, 0, by omega, rfl⟩
    · obtain ⟨h1, h2, k, h3, h4⟩ := bestTo_spec hE m (by omega) (by omega)
      split
      · rename_i hc
        simp only [Bool.or_eq_true, decide_eq_true_eq] at hc
        refine ⟨h0, fun k hk => ?_, m, by omega, rfl⟩
        by_cases e : k = m
        · subst e; exact Int.le_refl _
        · have := h2 k (by omega); omega
      · rename_i hc
        simp only [Bool.or_eq_true, decide_eq_true_eq] at hc
        refine ⟨h1, fun k hk => ?_, k, by omega, h4⟩
        by_cases e : k = m
        · subst e; omega
        · exact h2 k (by omega)
theorem digs_ok {spans : List Int} {n : Nat} (h : burnFit spans n = true) (hn : 1 ≤ n) (m : Nat) : burnOkL spans n (digs n spans.length m) = true := by
  unfold burnOkL
  rw [h, decide_eq_true (by rw [digs_len])]
  unfold rangeOk
  simp only [Bool.true_and, List.all_eq_true]
  intro o ho
  have := digs_rng hn _ _ o ho
  exact inR_iff.2 (by omega)
theorem best_is_least {spans : List Int} {n : Nat} (h : burnFit spans n = true) (hn : 1 ≤ n) : bestTo (fun m => burnEndL spans n (digs n spans.length m)) (n ^ spans.length) = burnLeastL spans n := by
  have hp : 0 < n ^ spans.length := Nat.pow_pos hn
  obtain ⟨_, h2, k, h3, h4⟩ := bestTo_spec (E := fun m => burnEndL spans n (digs n spans.length m)) (M := n ^ spans.length) (fun m _ => (burnEnd_nn (digs_ok h hn m)).1) _ (Nat.le_refl _) hp
  have a := burnLeast_le (digs_ok h hn k)
  obtain ⟨on, k1, k2⟩ := burnLeast_at h
  obtain ⟨_, p2, p3, _⟩ := burnOkL_parts k1
  obtain ⟨m, q1, q2⟩ := digs_all hn on (burnOk_rng p3)
  rw [p2] at q1 q2
  have b := h2 m q1
  simp only [q2] at b
  omega
/-- What the laws say of ends. -/
theorem load_ge : ∀ (on spans : List Int) (i : Nat) (s : Int), on.length = spans.length → (∀ x ∈ spans, 0 ≤ x) → spans[i]? = some s → ∃ o, on[i]? = some o ∧ s ≤ loadGo o on spans
  | [], [], i, s, _, _, h => by simp at h
  | o :: on, x :: r, i, s, hl, h0, h => by
    cases i with
    | zero =>
      obtain rfl : x = s := by simpa using h
      refine ⟨o, rfl, ?_⟩
      rw [loadGo, if_pos rfl]
      have : 0 ≤ loadGo o on r := by
        clear h hl
        induction on generalizing r with
        | nil => unfold loadGo; omega
        | cons p q ih =>
          cases r with
          | nil => unfold loadGo; omega
          | cons y z =>
            have a := ih z (fun t ht => h0 t (by
            rcases List.mem_cons.1 ht with ht | ht
            · simp [ht]
            · simp [ht]))
            have b := h0 y (by simp)
            unfold loadGo
            split <;> omega
      omega
    | succ i =>
      obtain ⟨p, h1, h2⟩ := load_ge on r i s (by simpa using hl) (fun y hy => h0 y (by simp [hy])) (by simpa using h)
      refine ⟨p, by simpa using h1, ?_⟩
      rw [loadGo]
      have := h0 x (by simp)
      split <;> omega
  | [], x :: r, i, s, hl, _, _ => by simp at hl
  | o :: on, [], i, s, hl, _, _ => by simp at hl
theorem sum_loads {n : Nat} : ∀ (on spans : List Int), on.length = spans.length → (∀ o ∈ on, 0 ≤ o ∧ o < n) → sumL (tab n (fun j => loadGo j on spans)) = sumL spans := by
  have hz : ∀ n : Nat, sumL (tab n (fun _ => (0 : Int))) = 0 := by
    intro n
    have := sumL_range (xs := tab n (fun _ => (0 : Int))) (hi := 0) (fun x hx => by rw [tab_nn x hx]; omega)
    omega
  have happ : ∀ a b : List Int, sumL (a ++ b) = sumL a + sumL b := by
    intro a b
    induction a with
    | nil => simp [sumL]
    | cons x r ih => simp only [List.cons_append, sumL, ih]; omega
  have hadd : ∀ (n : Nat) (f g : Nat → Int), sumL (tab n (fun j => f j + g j)) = sumL (tab n f) + sumL (tab n g) := by
    intro n f g
    induction n with
    | zero => rfl
    | succ m ih => rw [← tab_snoc, ← tab_snoc, ← tab_snoc, happ, happ, happ, ih]; simp only [sumL]; omega
  have hone : ∀ (n : Nat) (o s : Int), 0 ≤ o → o < n → sumL (tab n (fun j => if o = j then s else 0)) = s := by
    intro n o s h0
    induction n with
    | zero => intro h1; omega
    | succ m ih =>
      intro h1
      rw [← tab_snoc, happ]
      simp only [sumL]
      by_cases e : o = m
      · have : tab m (fun j => if o = (j : Int) then s else 0) = tab m (fun _ => 0) := tab_congr (fun j hj => if_neg (by omega))
        rw [this, hz, if_pos e]; omega
      · rw [ih (by omega), if_neg e]; omega
  intro on
  induction on with
  | nil =>
    intro spans hl _
    obtain rfl : spans = [] := List.eq_nil_of_length_eq_zero hl.symm
    exact hz n
  | cons o on ih =>
    intro spans hl ho
    cases spans with
    | nil => simp at hl
    | cons s r =>
      have h0 := ho o (by simp)
      have : tab n (fun j => loadGo j (o :: on) (s :: r)) = tab n (fun j => (if o = (j : Int) then s else 0) + loadGo j on r) := rfl
      rw [this, hadd, hone n o s h0.1 h0.2, ih r (by simpa using hl) (fun x hx => ho x (by simp [hx])), sumL]
theorem sumL_le_len {m : Int} : ∀ l : List Int, (∀ x ∈ l, x ≤ m) → sumL l ≤ l.length * m
  | [], _ => by simp [sumL]
  | x :: r, h => by
    have a := sumL_le_len r (fun y hy => h y (by simp [hy]))
    have b := h x (by simp)
    simp only [sumL, List.length_cons, Int.natCast_add, Int.natCast_one, Int.add_mul, Int.one_mul]
    omega
theorem sumL_ge_len {m : Int} : ∀ l : List Int, (∀ x ∈ l, m ≤ x) → l.length * m ≤ sumL l
  | [], _ => by simp [sumL]
  | x :: r, h => by
    have a := sumL_ge_len r (fun y hy => h y (by simp [hy]))
    have b := h x (by simp)
    simp only [sumL, List.length_cons, Int.natCast_add, Int.natCast_one, Int.add_mul, Int.one_mul]
    omega
/-- What FnBurnEnd says. -/
theorem burnEnd_said {spans on : List Int} {b : Int} (h : burnOkL spans b on = true) : (∀ s ∈ spans, s ≤ burnEndL spans b on) ∧ sumL spans ≤ b * burnEndL spans b on ∧ 0 ≤ burnLeastL spans b ∧ burnLeastL spans b ≤ burnEndL spans b on := by
  have hle := burnLeast_le h
  obtain ⟨h1, h2, h3, n, rfl, hn1, hn3⟩ := burnOkL_parts h
  have hf : burnFit spans n = true := by unfold burnOkL at h; simp only [Bool.and_eq_true] at h; exact h.1
  have hr := burnOk_rng h3
  refine ⟨fun s hs => ?_, ?_, (burnLeast_nn hf).1, hle⟩
  · obtain ⟨i, hi⟩ := List.getElem?_of_mem hs
    obtain ⟨o, k1, k2⟩ := load_ge on spans i s h2 (fun x hx => (spans_rng h1 x hx).1) hi
    have ho := hr o (List.mem_of_getElem? k1)
    unfold burnEndL
    rw [if_pos h]
    refine Int.le_trans k2 ((maxFrom_le _ _).2 _ (List.mem_map.2 ⟨o.toNat, List.mem_range.2 (by omega), ?_⟩))
    show loadGo ((o.toNat : Nat) : Int) on spans = _
    rw [Int.toNat_of_nonneg ho.1]
  · have := sumL_le_len (m := burnEndL spans n on) (tab n (fun j => loadGo j on spans)) (fun x hx => by
      unfold burnEndL
      rw [if_pos h]
      exact (maxFrom_le _ _).2 x hx)
    rw [sum_loads on spans h2 hr, tab_len] at this
    exact this
/-- The list that puts each span on the burner that is free first. -/
theorem greedy {n : Nat} {M : Int} (hn1 : 1 ≤ n) (hn3 : n ≤ 3) : ∀ (spans bs : List Int), bs.length = n → (∀ x ∈ bs, 0 ≤ x) → (∀ s ∈ spans, 0 ≤ s ∧ s ≤ M) → (∀ y ∈ bs, n * y ≤ sumL bs + (n - 1) * M) → 0 ≤ M →
    (∀ o ∈ burnGo bs spans, 0 ≤ o ∧ o < n) ∧ (∀ y ∈ putAll bs (burnGo bs spans) spans, n * y ≤ sumL bs + sumL spans + (n - 1) * M) := by
  have hset : ∀ (l : List Int) (q : Nat) (v : Int), q < l.length → sumL (l.set q v) = sumL l - l.getD q 0 + v := by
    intro l
    induction l with
    | nil => intro q v h; simp at h
    | cons x r ih =>
      intro q v h
      cases q with
      | zero => simp only [List.set_cons_zero, sumL, List.getD_cons_zero]; omega
      | succ q => simp only [List.set_cons_succ, sumL, List.getD_cons_succ]; rw [ih q v (by simpa using h)]; omega
  intro spans
  induction spans with
  | nil => intro bs hb _ _ hy _; refine ⟨fun o ho => by simp [burnGo] at ho, fun y hm => ?_⟩; rw [burnGo] at hm; simp only [putAll] at hm; have := hy y hm; rw [sumL]; omega
  | cons s r ih =>
    intro bs hb h0 hs hy hM
    obtain ⟨q1, q2, _⟩ := idxL_spec (minL_mem (xs := bs) (by omega))
    rw [burnGo]
    generalize idxL (minL bs) bs = q at *
    have hmin := sumL_ge_len (m := minL bs) bs (fun x hx => minL_le hx)
    have hs1 := hs s (by simp)
    have hv0 : 0 ≤ minL bs := h0 _ (minL_mem (by omega))
    have hss := hset bs q (bs.getD q 0 + s) q1
    rw [q2] at hss
    rw [q2]
    have hA : bs.set q (minL bs + s) = addAt bs q s := by unfold addAt; rw [q2]
    rw [hA] at hss ⊢
    have key : ∀ y ∈ addAt bs q s, (n : Int) * y ≤ sumL (addAt bs q s) + (n - 1) * M := by
      intro y hm
      rw [← hA] at hm
      rw [hb] at hmin
      rcases List.mem_or_eq_of_mem_set hm with hm | hm
      · have := hy y hm; omega
      · subst hm
        rw [hss]
        rcases (by omega : n = 1 ∨ n = 2 ∨ n = 3) with rfl | rfl | rfl <;> omega
    obtain ⟨i1, i2⟩ := ih (addAt bs q s) (by rw [addAt_len]; exact hb) (fun x hx => by
      rw [← hA] at hx
      rcases List.mem_or_eq_of_mem_set hx with hx | hx
      · exact h0 x hx
      · omega) (fun x hx => hs x (by simp [hx])) key hM
    refine ⟨fun o ho => ?_, fun y hm => ?_⟩
    · rcases List.mem_cons.1 ho with rfl | ho
      · omega
      · exact i1 o ho
    · rw [putAll] at hm
      have := i2 y (by simpa using hm)
      rw [sumL]
      omega
/-- What FnBurnList says. -/
theorem burnList_said {spans : List Int} {b : Int} (h : burnFit spans b = true) : burnOkL spans b (burnListL spans b) = true ∧ burnEndL spans b (burnListL spans b) * b ≤ burnLeastL spans b * (2 * b - 1) := by
  obtain ⟨on, k1, k2⟩ := burnLeast_at h
  obtain ⟨e1, e2, e3, _⟩ := burnEnd_said k1
  obtain ⟨h1, n, rfl, hn1, hn3⟩ := burnFit_parts h
  have hM := (burnLeast_nn h).1
  have hl : burnListL spans n = burnGo (tab n (fun _ => 0)) spans := by unfold burnListL; rw [if_pos h]; rfl
  have hz0 := sumL_range (xs := tab n (fun _ => (0 : Int))) (hi := 0) (fun x hx => by rw [tab_nn x hx]; omega)
  obtain ⟨g1, g2⟩ := greedy (n := n) (M := burnLeastL spans n) hn1 hn3 spans (tab n (fun _ => 0)) (tab_len _ _) (fun x hx => by rw [tab_nn x hx]; omega)
    (fun s hs => ⟨(spans_rng h1 s hs).1, by rw [k2]; exact e1 s hs⟩) (fun y hy => by rw [tab_nn y hy]; rcases (by omega : n = 1 ∨ n = 2 ∨ n = 3) with rfl | rfl | rfl <;> omega) hM
  rw [← hl] at g1 g2
  rw [putAll_zero g1] at g2
  have hok : burnOkL spans n (burnListL spans n) = true := by
    unfold burnOkL
    rw [h, decide_eq_true (by rw [hl, burnGo_len])]
    unfold rangeOk
    simp only [Bool.true_and, List.all_eq_true]
    intro o ho
    have := g1 o ho
    exact inR_iff.2 (by omega)
  refine ⟨hok, ?_⟩
  rw [← k2] at e2
  generalize burnLeastL spans n = L at *
  have hend : burnEndL spans n (burnListL spans n) = maxFrom 0 (tab n (fun j => loadGo j (burnListL spans n) spans)) := by unfold burnEndL; rw [if_pos hok]; rfl
  rw [hend]
  rcases maxFrom_mem (tab n (fun j => loadGo j (burnListL spans n) spans)) 0 with e | e
  · rw [e]; rcases (by omega : n = 1 ∨ n = 2 ∨ n = 3) with rfl | rfl | rfl <;> omega
  · have := g2 _ e
    generalize maxFrom 0 (tab n (fun j => loadGo j (burnListL spans n) spans)) = E at *
    rcases (by omega : n = 1 ∨ n = 2 ∨ n = 3) with rfl | rfl | rfl <;> omega
/-- What FnBurnLeast says. -/
theorem burnLeast_more {spans : List Int} {b : Int} (h : burnFit spans b = true) (hb : b < 3) : burnFit spans (b + 1) = true ∧ burnLeastL spans (b + 1) ≤ burnLeastL spans b := by
  obtain ⟨on, k1, k2⟩ := burnLeast_at h
  obtain ⟨h1, h2, h3, n, rfl, hn1, hn3⟩ := burnOkL_parts k1
  have hr := burnOk_rng h3
  have hf : burnFit spans ((n : Int) + 1) = true := by unfold burnFit; rw [h1, inR_iff.2 (by omega)]; rfl
  have hok : burnOkL spans ((n : Int) + 1) on = true := by
    unfold burnOkL
    rw [hf, decide_eq_true (by omega)]
    unfold rangeOk
    simp only [Bool.true_and, List.all_eq_true]
    intro o ho
    have := hr o ho
    exact inR_iff.2 (by omega)
  refine ⟨hf, ?_⟩
  have hle := burnLeast_le hok
  refine Int.le_trans hle ?_
  rw [k2]
  unfold burnEndL
  rw [if_pos hok, if_pos k1]
  have hlast : loadGo (n : Int) on spans = 0 := by
    have : ∀ (on spans : List Int), (∀ o ∈ on, 0 ≤ o ∧ o < n) → loadGo (n : Int) on spans = 0 := by
      intro on
      induction on with
      | nil => intro spans _; unfold loadGo; rfl
      | cons o on ih =>
        intro spans ho
        cases spans with
        | nil => unfold loadGo; rfl
        | cons s r =>
          have := ho o (by simp)
          rw [loadGo, if_neg (by omega), ih r (fun x hx => ho x (by simp [hx]))]
          rfl
    exact this on spans hr
  have e1 : ((n : Int) + 1).toNat = n + 1 := by omega
  have e2 : (n : Int).toNat = n := by omega
  rw [e1, e2]
  rcases maxFrom_mem (tab (n + 1) (fun j => loadGo j on spans)) 0 with e | e
  · rw [e]; exact (maxFrom_le _ _).1
  · rw [← tab_snoc] at e ⊢
    rcases List.mem_append.1 e with e | e
    · exact (maxFrom_le _ _).2 _ e
    · have e : maxFrom 0 (tab n (fun j => loadGo j on spans) ++ [loadGo (n : Int) on spans]) = loadGo (n : Int) on spans := by simpa using e
      rw [e, hlast]
      exact (maxFrom_le _ _).1
theorem burnLeast_one {spans : List Int} {b : Int} (h : burnFit spans b = true) : burnFit spans 1 = true ∧ burnLeastL spans 1 = sumL spans := by
  obtain ⟨h1, _⟩ := burnFit_parts h
  have hf : burnFit spans ((1 : Nat) : Int) = true := by unfold burnFit; rw [h1, inR_iff.2 (by omega)]; rfl
  refine ⟨hf, ?_⟩
  obtain ⟨on, k1, k2⟩ := burnLeast_at hf
  obtain ⟨_, p2, p3, _⟩ := burnOkL_parts k1
  have hs := sum_loads on spans p2 (burnOk_rng p3)
  have k2 : burnLeastL spans 1 = burnEndL spans ((1 : Nat) : Int) on := k2
  rw [k2]
  unfold burnEndL
  rw [if_pos k1]
  have e : tab (((1 : Nat) : Int).toNat) (fun j => loadGo j on spans) = [loadGo 0 on spans] := rfl
  have e' : tab 1 (fun j => loadGo j on spans) = [loadGo 0 on spans] := rfl
  rw [e]
  rw [e'] at hs
  simp only [sumL, maxFrom] at hs ⊢
  have := (loadGo_range (j := 0) (on := on) (spans := spans) (spans_rng h1)).1
  split <;> omega
end Go.Proofs.YteloapholoechaaDoor
