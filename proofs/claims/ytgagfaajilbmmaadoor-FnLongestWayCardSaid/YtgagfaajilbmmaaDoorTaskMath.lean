/- The earliest and the latest times of tasks: the mathematics of StartsEarly, TasksEnd and StartsLate.
   Conditions: in each statement. -/
import Derived.Test.YtgagfaajilbmmaaDoorEarly3
namespace Go.Proofs.YtgagfaajilbmmaaDoor

abbrev spanAt (l : List Task) (i : Nat) : Int := (l.getD i default).span
theorem getDT_at {α : Type} {l : List α} {i : Nat} {x d : α} (h : l[i]? = some x) : l.getD i d = x := by rw [List.getD_eq_getElem?_getD, h]; rfl
theorem precOk_iff {l : List Task} {ss : List Int} {s : Int} : ∀ {xs : List Int}, precOk l ss s xs = true ↔ ∀ a ∈ xs, ss.getD a.toNat 0 + spanAt l a.toNat ≤ s
  | [] => by simp [precOk]
  | a :: r => by
    rw [precOk, Bool.and_eq_true, precOk_iff (xs := r)]
    simp only [decide_eq_true_eq, List.forall_mem_cons]
    unfold spanAt
    exact ⟨fun h => ⟨by have := h.1; omega, h.2⟩, fun h => ⟨by have := h.1; omega, h.2⟩⟩
theorem startsGo_iff {l : List Task} {ss : List Int} : ∀ {r : List Task} {k : Nat}, startsGo l ss k r = true ↔ ∀ i x, r[i]? = some x → ∀ a ∈ x.after, ss.getD a.toNat 0 + spanAt l a.toNat ≤ ss.getD (k + i) 0
  | [], k => by simp [startsGo]
  | y :: r, k => by
    rw [startsGo, Bool.and_eq_true, startsGo_iff (r := r), precOk_iff]
    constructor
    · rintro ⟨h1, h2⟩ i x hx
      cases i with
      | zero =>
        obtain rfl : y = x := by simpa using hx
        exact h1
      | succ i =>
        have := h2 i x (by simpa using hx)
        rw [show k + (i + 1) = k + 1 + i from by omega]
        exact this
    · intro h
      refine ⟨h 0 y rfl, fun i x hx => ?_⟩
      have := h (i + 1) x (by simpa using hx)
      rw [show k + (i + 1) = k + 1 + i from by omega] at this
      exact this
theorem startsOk_iff {l : List Task} {ss : List Int} : startsOkL l ss = true ↔ tasksOk l = true ∧ ss.length = l.length ∧ (∀ s ∈ ss, 0 ≤ s ∧ s ≤ 9999) ∧ ∀ k x, l[k]? = some x → ∀ a ∈ x.after, ss.getD a.toNat 0 + spanAt l a.toNat ≤ ss.getD k 0 := by
  unfold startsOkL rangeOk
  simp only [Bool.and_eq_true, decide_eq_true_eq, List.all_eq_true, startsGo_iff, inR_iff, Nat.zero_add]
  exact ⟨fun ⟨h1, ⟨h2, h3⟩, h4⟩ => ⟨h1, by omega, h3, h4⟩, fun ⟨h1, h2, h3, h4⟩ => ⟨h1, ⟨by omega, h3⟩, h4⟩⟩

theorem early_at {l : List Task} (h : tasksOk l = true) {k : Nat} {x : Task} (hx : l[k]? = some x) : 0 ≤ (startsEarlyL l).getD k 0 ∧ (∀ a ∈ x.after, (startsEarlyL l).getD a.toNat 0 + spanAt l a.toNat ≤ (startsEarlyL l).getD k 0) ∧
    ((startsEarlyL l).getD k 0 = 0 ∨ ∃ a ∈ x.after, (startsEarlyL l).getD k 0 = (startsEarlyL l).getD a.toNat 0 + spanAt l a.toNat) := by
  have e := getDT_at (d := 0) (startsEarlyL_at h hx)
  have hm := maxFrom_le (x.after.map (fun a => (startsEarlyL l).getD a.toNat 0 + (l.getD a.toNat default).span)) 0
  have hq := maxFrom_mem (x.after.map (fun a => (startsEarlyL l).getD a.toNat 0 + (l.getD a.toNat default).span)) 0
  rw [← e] at hm hq
  refine ⟨hm.1, fun a ha => hm.2 _ (List.mem_map.2 ⟨a, ha, rfl⟩), ?_⟩
  rcases hq with hq | hq
  · exact .inl hq
  · obtain ⟨a, ha, e2⟩ := List.mem_map.1 hq
    exact .inr ⟨a, ha, e2.symm⟩
theorem early_ok {l : List Task} (h : tasksOk l = true) : startsOkL l (startsEarlyL l) = true :=
  startsOk_iff.2 ⟨h, startsEarlyL_len h, fun s hs => by have := startsEarlyL_ok h s hs; omega, fun _ _ hx => (early_at h hx).2.1⟩
/-- No task could begin a minute earlier. -/
theorem early_not {l : List Task} (h : tasksOk l = true) {k : Nat} (hk : k < l.length) : startsOkL l ((startsEarlyL l).set k ((startsEarlyL l).getD k 0 - 1)) = false := by
  cases hc : startsOkL l ((startsEarlyL l).set k ((startsEarlyL l).getD k 0 - 1)) with
  | false => rfl
  | true =>
    obtain ⟨-, -, h3, h4⟩ := startsOk_iff.1 hc
    have hkl : k < (startsEarlyL l).length := by rw [startsEarlyL_len h]; exact hk
    have hx := List.getElem?_eq_getElem hk
    have hself : ((startsEarlyL l).set k ((startsEarlyL l).getD k 0 - 1)).getD k 0 = (startsEarlyL l).getD k 0 - 1 := getDT_at (List.getElem?_set_self hkl)
    obtain ⟨e1, e2, e3⟩ := early_at h hx
    rcases e3 with e3 | ⟨a, ha, e3⟩
    · have := h3 _ (List.mem_of_getElem? (List.getElem?_set_self (a := (startsEarlyL l).getD k 0 - 1) hkl))
      omega
    · have hr := (tasksOk_at h hx).2 a ha
      have hne : ((startsEarlyL l).set k ((startsEarlyL l).getD k 0 - 1)).getD a.toNat 0 = (startsEarlyL l).getD a.toNat 0 := by
        rw [List.getD_eq_getElem?_getD, List.getElem?_set_ne (by omega), ← List.getD_eq_getElem?_getD]
      have := h4 k _ hx a ha
      rw [hself, hne] at this
      omega
/-- Whenever tasks begin as they may, each one begins at least as late. -/
theorem early_least {l : List Task} {ss : List Int} (h : startsOkL l ss = true) : ∀ k, k < l.length → (startsEarlyL l).getD k 0 ≤ ss.getD k 0 := by
  obtain ⟨h1, h2, h3, h4⟩ := startsOk_iff.1 h
  have : ∀ n k, k < n → k < l.length → (startsEarlyL l).getD k 0 ≤ ss.getD k 0 := by
    intro n
    induction n with
    | zero => intro k hk; omega
    | succ n ih =>
      intro k hkn hk
      have hx := List.getElem?_eq_getElem hk
      obtain ⟨e1, e2, e3⟩ := early_at h1 hx
      rcases e3 with e3 | ⟨a, ha, e3⟩
      · have := h3 _ (List.mem_of_getElem? (List.getElem?_eq_getElem (show k < ss.length by omega)))
        rw [getDT_at (List.getElem?_eq_getElem (show k < ss.length by omega))]
        omega
      · have hr := (tasksOk_at h1 hx).2 a ha
        have := h4 k _ hx a ha
        have := ih a.toNat (by omega) (by omega)
        omega
  exact fun k hk => this (k + 1) k (by omega) hk
theorem dones_at {l : List Task} (h : tasksOk l = true) {k : Nat} (hk : k < l.length) : (donesL l)[k]? = some ((startsEarlyL l).getD k 0 + spanAt l k) := by
  have hs := List.getElem?_eq_getElem (show k < (startsEarlyL l).length by rw [startsEarlyL_len h]; exact hk)
  have hx := List.getElem?_eq_getElem hk
  unfold donesL
  rw [List.getElem?_zipWith, hs, hx, getDT_at hs, spanAt, getDT_at hx]
theorem end_ge {l : List Task} (h : tasksOk l = true) {k : Nat} (hk : k < l.length) : (startsEarlyL l).getD k 0 + spanAt l k ≤ tasksEndL l := by
  unfold tasksEndL
  rw [if_pos h]
  exact (maxFrom_le _ _).2 _ (List.mem_of_getElem? (dones_at h hk))
theorem end_nn {l : List Task} (h : tasksOk l = true) : 0 ≤ tasksEndL l := by
  unfold tasksEndL
  rw [if_pos h]
  exact (maxFrom_le _ _).1
theorem end_at {l : List Task} (h : tasksOk l = true) : tasksEndL l = 0 ∨ ∃ k, k < l.length ∧ tasksEndL l = (startsEarlyL l).getD k 0 + spanAt l k := by
  have e : tasksEndL l = maxFrom 0 (donesL l) := by unfold tasksEndL; rw [if_pos h]
  rcases maxFrom_mem (donesL l) 0 with hq | hq
  · exact .inl (e.trans hq)
  · obtain ⟨k, hk⟩ := List.getElem?_of_mem hq
    have hkl : k < l.length := by
      have := (List.getElem?_eq_some_iff.1 hk).1
      unfold donesL at this
      rw [List.length_zipWith] at this
      omega
    rw [dones_at h hkl] at hk
    injection hk with hk
    exact .inr ⟨k, hkl, by rw [e, hk]⟩
theorem sumT_app (a b : List Int) : sumL (a ++ b) = sumL a + sumL b := by
  induction a with
  | nil => simp [sumL]
  | cons x r ih => simp only [List.cons_append, sumL, ih]; omega
theorem sum_take_le {l : List Task} (h : ∀ y ∈ l, 0 ≤ y.span ∧ y.span ≤ 30) {i j : Nat} (hij : i ≤ j) : sumL ((l.take i).map (·.span)) ≤ sumL ((l.take j).map (·.span)) := by
  have hnn : ∀ m : List Task, (∀ y ∈ m, 0 ≤ y.span) → 0 ≤ sumL (m.map (·.span)) := by
    intro m
    induction m with
    | nil => intro _; simp [sumL]
    | cons y r ih => intro hm; have a := ih (fun z hz => hm z (by simp [hz])); have b := hm y (by simp); simp only [List.map_cons, sumL]; omega
  have e : l.take j = l.take i ++ (l.take j).drop i := by
    have := List.take_append_drop i (l.take j)
    rw [List.take_take, Nat.min_eq_left hij] at this
    exact this.symm
  rw [e, List.map_append, sumT_app]
  have := hnn ((l.take j).drop i) (fun y hy => (h y (List.mem_of_mem_take (List.mem_of_mem_drop hy))).1)
  omega
theorem sum_take_succ {l : List Task} {k : Nat} (hk : k < l.length) : sumL ((l.take (k + 1)).map (·.span)) = sumL ((l.take k).map (·.span)) + spanAt l k := by
  rw [List.take_succ_eq_append_getElem hk, List.map_append, sumT_app, spanAt, getDT_at (List.getElem?_eq_getElem hk)]
  simp [sumL]
theorem early_sum {l : List Task} (h : tasksOk l = true) : ∀ n k, k < n → k < l.length → (startsEarlyL l).getD k 0 ≤ sumL ((l.take k).map (·.span)) := by
  intro n
  induction n with
  | zero => intro k hk; omega
  | succ n ih =>
    intro k hkn hk
    have hx := List.getElem?_eq_getElem hk
    have h0 := sum_take_le (tasks_span h) (Nat.zero_le k)
    simp only [List.take_zero, List.map_nil, sumL] at h0
    obtain ⟨e1, e2, e3⟩ := early_at h hx
    rcases e3 with e3 | ⟨a, ha, e3⟩
    · omega
    · have hr := (tasksOk_at h hx).2 a ha
      have i1 := ih a.toNat (by omega) (by omega)
      have i2 := sum_take_succ (l := l) (k := a.toNat) (by omega)
      have i3 := sum_take_le (tasks_span h) (i := a.toNat + 1) (j := k) (by omega)
      omega
theorem end_sum {l : List Task} (h : tasksOk l = true) : tasksEndL l ≤ sumL (l.map (·.span)) := by
  have h0 := sum_take_le (tasks_span h) (Nat.zero_le l.length)
  rw [List.take_length] at h0
  simp only [List.take_zero, List.map_nil, sumL] at h0
  rcases end_at h with e | ⟨k, hk, e⟩
  · omega
  · have i1 := early_sum h (k + 1) k (by omega) hk
    have i2 := sum_take_succ hk
    have i3 := sum_take_le (tasks_span h) (i := k + 1) (j := l.length) (by omega)
    rw [List.take_length] at i3
    omega
theorem tasksGo_take : ∀ {l : List Task} {k : Int} {m : Nat}, tasksGo k l = true → tasksGo k (l.take m) = true
  | [], _, _, _ => by simp [tasksGo]
  | x :: r, k, 0, _ => rfl
  | x :: r, k, m + 1, h => by
    rw [tasksGo, Bool.and_eq_true] at h
    rw [List.take_succ_cons, tasksGo, Bool.and_eq_true]
    exact ⟨h.1, tasksGo_take h.2⟩
theorem tasksOk_take {l : List Task} (h : tasksOk l = true) (m : Nat) : tasksOk (l.take m) = true := by
  unfold tasksOk at *
  rw [Bool.and_eq_true] at *
  refine ⟨?_, tasksGo_take h.2⟩
  have := h.1
  simp only [decide_eq_true_eq] at this ⊢
  rw [List.length_take]
  omega
theorem early_take {l : List Task} (h : tasksOk l = true) {m : Nat} (hm : m ≤ l.length) : ∀ n k, k < n → k < m → (startsEarlyL (l.take m)).getD k 0 = (startsEarlyL l).getD k 0 := by
  have ht := tasksOk_take h m
  have hsp : ∀ a, a < m → spanAt (l.take m) a = spanAt l a := fun a ha => by
    unfold spanAt
    rw [List.getD_eq_getElem?_getD, List.getElem?_take, if_pos ha, ← List.getD_eq_getElem?_getD]
  intro n
  induction n with
  | zero => intro k hk; omega
  | succ n ih =>
    intro k hkn hk
    have hx := List.getElem?_eq_getElem (show k < l.length by omega)
    have hx' : (l.take m)[k]? = some l[k] := by rw [List.getElem?_take, if_pos hk]; exact hx
    obtain ⟨a1, a2, a3⟩ := early_at h hx
    obtain ⟨b1, b2, b3⟩ := early_at ht hx'
    have hr := (tasksOk_at h hx).2
    have key : ∀ a ∈ l[k].after, (startsEarlyL (l.take m)).getD a.toNat 0 + spanAt (l.take m) a.toNat = (startsEarlyL l).getD a.toNat 0 + spanAt l a.toNat := fun a ha => by
      have := hr a ha
      rw [ih a.toNat (by omega) (by omega), hsp a.toNat (by omega)]
    have le1 : (startsEarlyL (l.take m)).getD k 0 ≤ (startsEarlyL l).getD k 0 := by
      rcases b3 with b3 | ⟨a, ha, b3⟩
      · omega
      · have := a2 a ha
        have := key a ha
        omega
    have le2 : (startsEarlyL l).getD k 0 ≤ (startsEarlyL (l.take m)).getD k 0 := by
      rcases a3 with a3 | ⟨a, ha, a3⟩
      · omega
      · have := b2 a ha
        have := key a ha
        omega
    omega
theorem end_take {l : List Task} (h : tasksOk l = true) {m : Nat} (hm : m ≤ l.length) : tasksEndL (l.take m) ≤ tasksEndL l := by
  have ht := tasksOk_take h m
  rcases end_at ht with e | ⟨k, hk, e⟩
  · rw [e]; exact end_nn h
  · rw [List.length_take] at hk
    have hkm : k < m := by omega
    have := end_ge h (k := k) (by omega)
    rw [e, early_take h hm (k + 1) k (by omega) hkm]
    have e2 : spanAt (l.take m) k = spanAt l k := by
      unfold spanAt
      rw [List.getD_eq_getElem?_getD, List.getElem?_take, if_pos hkm, ← List.getD_eq_getElem?_getD]
    rw [e2]
    exact this
theorem end_span {l : List Task} (h : tasksOk l = true) : ∀ x ∈ l, x.span ≤ tasksEndL l := fun x hx => by
  obtain ⟨k, hk⟩ := List.getElem?_of_mem hx
  have hkl := (List.getElem?_eq_some_iff.1 hk).1
  have a := end_ge h hkl
  have b := (early_at h hk).1
  unfold spanAt at a
  rw [getDT_at hk] at a
  omega
theorem end_top {l : List Task} (h : tasksOk l = true) : tasksEndL l ≤ 210 := by
  rcases end_at h with e | ⟨k, hk, e⟩
  · omega
  · have a := early_sum h (k + 1) k (by omega) hk
    have hl := tasksOk_len h
    have : ∀ m : List Task, (∀ y ∈ m, y.span ≤ 30) → sumL (m.map (·.span)) ≤ 30 * m.length := by
      intro m
      induction m with
      | nil => intro _; simp [sumL]
      | cons y r ih => intro hm; have a := ih (fun z hz => hm z (by simp [hz])); have b := hm y (by simp); simp only [List.map_cons, sumL, List.length_cons]; omega
    have b := this (l.take k) (fun y hy => (tasks_span h y (List.mem_of_mem_take hy)).2)
    have c : spanAt l k ≤ 30 := (getD_span (tasks_span h) k).2
    rw [List.length_take, Nat.min_eq_left (by omega)] at b
    omega

/-- The latest times. -/
def lateRow (l : List Task) (k : Nat) : List Int → List Int → List Int
  | out, [] => out
  | out, a :: r => lateRow l k (out.set a.toNat (if out.getD k 0 - spanAt l a.toNat < out.getD a.toNat 0 then out.getD k 0 - spanAt l a.toNat else out.getD a.toNat 0)) r
def lateGo (l : List Task) : Nat → List Int → List Int
  | 0, out => out
  | k + 1, out => lateGo l k (lateRow l k out (l.getD k default).after)
def startsLateL (l : List Task) : List Int := if tasksOk l = true then lateGo l l.length (l.map (fun x => tasksEndL l - x.span)) else []

theorem getD_set {out : List Int} {a : Nat} {v : Int} (ha : a < out.length) (j : Nat) : (out.set a v).getD j 0 = if a = j then v else out.getD j 0 := by
  rw [List.getD_eq_getElem?_getD, List.getElem?_set]
  by_cases e : a = j
  · subst e; rw [if_pos rfl, if_pos ha, if_pos rfl]; rfl
  · rw [if_neg e, if_neg e, List.getD_eq_getElem?_getD]
structure LateRow (l : List Task) (k : Nat) (out : List Int) (xs : List Int) (res : List Int) : Prop where
  len : res.length = out.length
  keep : ∀ j, k ≤ j → res.getD j 0 = out.getD j 0
  le : ∀ j, res.getD j 0 ≤ out.getD j 0
  prec : ∀ a ∈ xs, res.getD a.toNat 0 + spanAt l a.toNat ≤ res.getD k 0
  low : ∀ s : Nat → Int, (∀ j, j < out.length → s j ≤ out.getD j 0) → (∀ a ∈ xs, s a.toNat + spanAt l a.toNat ≤ s k) → ∀ j, j < out.length → s j ≤ res.getD j 0
theorem lateRow_ok (l : List Task) (k : Nat) : ∀ (xs out : List Int), k < out.length → (∀ a ∈ xs, 0 ≤ a ∧ a < (k : Int)) → LateRow l k out xs (lateRow l k out xs)
  | [], out, _, _ => ⟨rfl, fun _ _ => rfl, fun _ => Int.le_refl _, fun a ha => by simp at ha, fun s hs _ => hs⟩
  | a :: r, out, hk, hx => by
    have ha := hx a (by simp)
    have hal : a.toNat < out.length := by omega
    rw [lateRow]
    obtain ⟨v, hv⟩ : ∃ v, (if out.getD k 0 - spanAt l a.toNat < out.getD a.toNat 0 then out.getD k 0 - spanAt l a.toNat else out.getD a.toNat 0) = v := ⟨_, rfl⟩
    rw [hv]
    have hg := getD_set (out := out) (a := a.toNat) (v := v) hal
    have ih := lateRow_ok l k r (out.set a.toNat v) (by rw [List.length_set]; exact hk) (fun b hb => hx b (by simp [hb]))
    have hkk : (out.set a.toNat v).getD k 0 = out.getD k 0 := by rw [hg, if_neg (by omega)]
    refine ⟨by rw [ih.len, List.length_set], fun j hj => ?_, fun j => ?_, fun b hb => ?_, fun s hs hp j hj => ?_⟩
    · rw [ih.keep j hj, hg, if_neg (by omega)]
    · refine Int.le_trans (ih.le j) ?_
      rw [hg]
      split
      · rename_i e
        subst e
        rw [← hv]
        split <;> omega
      · exact Int.le_refl _
    · rcases List.mem_cons.1 hb with rfl | hb
      · have a1 := ih.le b.toNat
        rw [ih.keep k (Nat.le_refl _), hkk]
        rw [hg, if_pos rfl] at a1
        have : v ≤ out.getD k 0 - spanAt l b.toNat := by rw [← hv]; split <;> omega
        omega
      · exact ih.prec b hb
    · refine ih.low s (fun i hi => ?_) (fun b hb => hp b (by simp [hb])) j (by rw [List.length_set]; exact hj)
      rw [List.length_set] at hi
      rw [hg]
      split
      · rename_i e
        subst e
        have b1 := hs _ hi
        have b2 := hp a (by simp)
        have b3 := hs k hk
        rw [← hv]
        split <;> omega
      · exact hs i hi
structure LateGo (l : List Task) (k : Nat) (out : List Int) : Prop where
  len : out.length = l.length
  prec : ∀ i x, k ≤ i → l[i]? = some x → ∀ a ∈ x.after, out.getD a.toNat 0 + spanAt l a.toNat ≤ out.getD i 0
  top : ∀ i, i < l.length → out.getD i 0 + spanAt l i ≤ tasksEndL l
  low : ∀ s : Nat → Int, (∀ i x, l[i]? = some x → ∀ a ∈ x.after, s a.toNat + spanAt l a.toNat ≤ s i) → (∀ i, i < l.length → s i + spanAt l i ≤ tasksEndL l) → ∀ i, i < l.length → s i ≤ out.getD i 0
theorem lateGo_ok {l : List Task} (h : tasksOk l = true) : ∀ (k : Nat) (out : List Int), k ≤ l.length → LateGo l k out → LateGo l 0 (lateGo l k out)
  | 0, _, _, hg => hg
  | k + 1, out, hk, hg => by
    rw [lateGo]
    have hx := List.getElem?_eq_getElem (show k < l.length by omega)
    rw [getDT_at hx]
    have hr := lateRow_ok l k l[k].after out (by rw [hg.len]; omega) (tasksOk_at h hx).2
    refine lateGo_ok h k _ (by omega) ⟨by rw [hr.len, hg.len], fun i x hi hxi a ha => ?_, fun i hi => ?_, fun s hs ht i hi => ?_⟩
    · by_cases e : i = k
      · subst e
        rw [hx] at hxi
        injection hxi with hxi
        subst hxi
        exact hr.prec a ha
      · have h1 := hg.prec i x (by omega) hxi a ha
        have h2 := hr.le a.toNat
        rw [hr.keep i (by omega)]
        omega
    · have h1 := hg.top i hi
      have h2 := hr.le i
      omega
    · exact hr.low s (fun j hj => hg.low s hs ht j (by rw [← hg.len]; exact hj)) (fun a ha => hs k _ hx a ha) i (by rw [hg.len]; exact hi)
theorem late_start {l : List Task} (_h : tasksOk l = true) : LateGo l l.length (l.map (fun x => tasksEndL l - x.span)) := by
  have hv : ∀ i, i < l.length → (l.map (fun x => tasksEndL l - x.span)).getD i 0 = tasksEndL l - spanAt l i := fun i hi => by
    have hx := List.getElem?_eq_getElem hi
    rw [getDT_at (x := tasksEndL l - l[i].span) (by rw [List.getElem?_map, hx]; rfl), spanAt, getDT_at hx]
  refine ⟨by simp, fun i x hi hx => ?_, fun i hi => ?_, fun s _ ht i hi => ?_⟩
  · have := (List.getElem?_eq_some_iff.1 hx).1
    omega
  · rw [hv i hi]; omega
  · rw [hv i hi]; have := ht i hi; omega
theorem late_ok {l : List Task} (h : tasksOk l = true) : LateGo l 0 (startsLateL l) := by
  unfold startsLateL
  rw [if_pos h]
  exact lateGo_ok h _ _ (Nat.le_refl _) (late_start h)
theorem late_len {l : List Task} (h : tasksOk l = true) : (startsLateL l).length = l.length := (late_ok h).len
/-- The latest times are as late as any that end in time. -/
theorem late_most {l : List Task} {ss : List Int} (h : startsOkL l ss = true) (he : ∀ i, i < l.length → ss.getD i 0 + spanAt l i ≤ tasksEndL l) : ∀ i, i < l.length → ss.getD i 0 ≤ (startsLateL l).getD i 0 := by
  obtain ⟨h1, h2, h3, h4⟩ := startsOk_iff.1 h
  exact fun i hi => (late_ok h1).low (fun j => ss.getD j 0) h4 he i hi
theorem early_late {l : List Task} (h : tasksOk l = true) : ∀ i, i < l.length → (startsEarlyL l).getD i 0 ≤ (startsLateL l).getD i 0 :=
  late_most (early_ok h) (fun _ hi => end_ge h hi)
theorem late_rng {l : List Task} (h : tasksOk l = true) : ∀ t ∈ startsLateL l, 0 ≤ t ∧ t ≤ 210 := fun t ht => by
  obtain ⟨i, hi⟩ := List.getElem?_of_mem ht
  have hil : i < l.length := by have := (List.getElem?_eq_some_iff.1 hi).1; rwa [late_len h] at this
  have a := early_late h i hil
  have b := (early_at h (List.getElem?_eq_getElem hil)).1
  have c := (late_ok h).top i hil
  have d := getD_span (tasks_span h) i
  have e := end_top h
  rw [getDT_at hi] at a c
  unfold spanAt at c
  omega
theorem late_valid {l : List Task} (h : tasksOk l = true) : startsOkL l (startsLateL l) = true :=
  startsOk_iff.2 ⟨h, late_len h, fun s hs => by have := late_rng h s hs; omega, fun k x hx a ha => (late_ok h).prec k x (Nat.zero_le _) hx a ha⟩
/-- For some task both are the same. -/
theorem late_some {l : List Task} (h : tasksOk l = true) (hl : 0 < l.length) : ∃ i, i < l.length ∧ (startsLateL l).getD i 0 = (startsEarlyL l).getD i 0 := by
  have key : ∃ k, k < l.length ∧ tasksEndL l ≤ (startsEarlyL l).getD k 0 + spanAt l k := by
    rcases end_at h with e | ⟨k, hk, e⟩
    · have a := (early_at h (List.getElem?_eq_getElem hl)).1
      have b := getD_span (tasks_span h) 0
      exact ⟨0, hl, by unfold spanAt; omega⟩
    · exact ⟨k, hk, by omega⟩
  obtain ⟨k, hk, e⟩ := key
  have a := early_late h k hk
  have b := (late_ok h).top k hk
  exact ⟨k, hk, by omega⟩
end Go.Proofs.YtgagfaajilbmmaaDoor
