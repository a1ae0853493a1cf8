/- The least plan of items: its runs by those of the items behind, its bounds, that it is a plan, and that no plan has fewer runs of anything.
   Conditions: none but those in each statement. -/
import Derived.Test.YtjegebnnlomcpaaDoorTab
namespace Go.Proofs.YtjegebnnlomcpaaDoor

/-- The fewest runs by which so much is there as lacks. -/
def runsI (y lack : Int) : Int := if lack ≤ 0 then 0 else if 0 < y then (lack + y - 1) / y else lack

def lackAt (l : List Item) (want stock rs : List Int) (i : Nat) : Int := want.getD i 0 + upS l rs i l.length - stock.getD i 0

def lstF (l : List Item) (want stock : List Int) : Nat → Nat → Int
  | 0, _ => 0
  | m + 1, i => if i + m + 1 = l.length then runsI (l.getD i nil0).yield (lackAt l want stock (tab l.length (lstF l want stock m)) i) else lstF l want stock m i

def lstL (l : List Item) (want stock : List Int) : List Int := tab l.length (lstF l want stock l.length)

theorem lstL_len (l : List Item) (want stock : List Int) : (lstL l want stock).length = l.length := tab_len _ _

theorem tab_getDp {n : Nat} {f : Nat → Int} {i : Nat} (h : i < n) : (tab n f).getD i 0 = f i := by
  rw [List.getD_eq_getElem?_getD, tab_at h]; rfl

theorem lstF_stay (l : List Item) (want stock : List Int) {i m : Nat} (hi : i < l.length) (hm : l.length ≤ i + m) : ∀ d : Nat, lstF l want stock (m + d) i = lstF l want stock m i
  | 0 => rfl
  | d + 1 => by
    rw [← Nat.add_assoc, lstF, if_neg (by omega)]
    exact lstF_stay l want stock hi hm d

theorem upS_upto {l : List Item} {rs rs' : List Int} {i : Nat} (h : ∀ (k : Nat) (x : Item), l[k]? = some x → ∀ p ∈ x.parts, p.of < (k : Int)) (hr : ∀ k, i < k → k < l.length → rs.getD k 0 = rs'.getD k 0) :
    ∀ m : Nat, m ≤ l.length → upS l rs i m = upS l rs' i m
  | 0, _ => rfl
  | m + 1, hm => by
    rw [upS_succ, upS_succ, upS_upto h hr m (by omega)]
    by_cases hi : i < m
    · rw [hr m hi (by omega)]
    · have hx : l[m]? = some (l.getD m nil0) := by rw [List.getD_eq_getElem?_getD, List.getElem?_eq_getElem (by omega)]; rfl
      rw [conTo_far (fun p hp => by have := h m _ hx p hp; omega) _ (Nat.le_refl _), conTo_far (fun p hp => by have := h m _ hx p hp; omega) _ (Nat.le_refl _)]

/-- What the walks need of the least plan: the runs of each item by those of the items behind it. -/
theorem lstL_at {l : List Item} {want stock : List Int} (h : itemsOk l = true) {i : Nat} (hi : i < l.length) :
    (lstL l want stock).getD i 0 = runsI (l.getD i nil0).yield (lackAt l want stock (lstL l want stock) i) := by
  obtain ⟨d, hd⟩ : ∃ d, l.length = (l.length - i - 1 + 1) + d := ⟨i, by omega⟩
  have e1 : lstF l want stock l.length i = lstF l want stock (l.length - i - 1 + 1) i := by
    have := lstF_stay l want stock (i := i) (m := l.length - i - 1 + 1) hi (by omega) d
    rwa [← hd] at this
  unfold lstL
  rw [tab_getDp hi, e1, lstF, if_pos (by omega)]
  congr 1
  unfold lackAt
  rw [upS_upto (rs := tab l.length (lstF l want stock (l.length - i - 1))) (rs' := tab l.length (lstF l want stock l.length)) (itemsOk_less h) (fun k hk hkl => ?_) _ (Nat.le_refl _)]
  rw [tab_getDp hkl, tab_getDp hkl]
  have := lstF_stay l want stock (i := k) (m := l.length - i - 1) hkl (by omega) (i + 1)
  rw [show l.length - i - 1 + (i + 1) = l.length from by omega] at this
  exact this.symm

/-! ### bounds -/
theorem partsGo_low {index : Int} : ∀ {ps : List Part} {least : Int}, partsGo index least ps = true → ∀ (k : Nat) (p : Part), ps[k]? = some p → least ≤ p.of
  | [], _, _, k, p, hp => by simp at hp
  | q :: r, least, h, k, p, hp => by
    unfold partsGo at h
    simp only [Bool.and_eq_true, inR_iff] at h
    obtain ⟨⟨a, b⟩, -, e⟩ := h
    cases k with
    | zero => obtain rfl : q = p := by simpa using hp
              exact a
    | succ k => have := partsGo_low e k p (by simpa using hp); omega

theorem partsGo_apart {index : Int} : ∀ {ps : List Part} {least : Int}, partsGo index least ps = true → ∀ (j k : Nat) (p q : Part), j < k → ps[j]? = some p → ps[k]? = some q → p.of < q.of
  | [], _, _, j, k, p, q, _, hp, _ => by simp at hp
  | a :: r, least, h, j, k, p, q, hjk, hp, hq => by
    unfold partsGo at h
    simp only [Bool.and_eq_true, inR_iff] at h
    obtain ⟨-, -, e⟩ := h
    obtain ⟨k, rfl⟩ : ∃ k', k = k' + 1 := ⟨k - 1, by omega⟩
    cases j with
    | zero => obtain rfl : a = p := by simpa using hp
              have := partsGo_low e k q (by simpa using hq); omega
    | succ j => exact partsGo_apart e j k p q (by omega) (by simpa using hp) (by simpa using hq)

theorem conTo_none {ps : List Part} {r : Int} {j : Nat} : ∀ k : Nat, (∀ (m : Nat) (p : Part), m < k → ps[m]? = some p → p.of ≠ (j : Int)) → k ≤ ps.length → conTo ps r j k = 0
  | 0, _, _ => rfl
  | k + 1, h, hk => by
    have hx : ps[k]? = some (ps.getD k ⟨0, 0⟩) := by rw [List.getD_eq_getElem?_getD, List.getElem?_eq_getElem (by omega)]; rfl
    rw [conTo_succ, conTo_none k (fun m p hm => h m p (by omega)) (by omega), if_neg (h k _ (by omega) hx)]; rfl

theorem conTo_one {ps : List Part} {r index least : Int} (hg : partsGo index least ps = true) (hp : ∀ p ∈ ps, 0 ≤ p.many ∧ p.many ≤ 6) (k0 : 0 ≤ r) (j : Nat) : ∀ k : Nat, k ≤ ps.length → 0 ≤ conTo ps r j k ∧ conTo ps r j k ≤ 6 * r
  | 0, _ => by simp [conTo]; omega
  | k + 1, hk => by
    have a := conTo_one hg hp k0 j k (by omega)
    have hx : ps[k]? = some (ps.getD k ⟨0, 0⟩) := by rw [List.getD_eq_getElem?_getD, List.getElem?_eq_getElem (by omega)]; rfl
    have b := getD_parts hp k
    rw [conTo_succ]
    by_cases e : (ps.getD k ⟨0, 0⟩).of = (j : Int)
    · rw [if_pos e, conTo_none k (fun m p hm hpm => by have := partsGo_apart hg m k p _ hm hpm hx; omega) (by omega), Int.zero_add]
      exact ⟨Int.mul_nonneg b.1 k0, Int.mul_le_mul_of_nonneg_right b.2 k0⟩
    · rw [if_neg e]; omega

theorem itemsOk_go {l : List Item} (h : itemsOk l = true) {i : Nat} {x : Item} (hx : l[i]? = some x) : partsGo i 0 x.parts = true := by
  unfold itemsOk at h
  simp only [Bool.and_eq_true] at h
  have h1 := itemsGo_at h.2 i x hx
  rw [Int.zero_add] at h1
  unfold itemOk at h1
  simp only [Bool.and_eq_true, inR_iff] at h1
  obtain ⟨-, h2⟩ := h1
  split at h2
  · have hn : x.parts = [] := by simpa using h2
    rw [hn]; rfl
  · unfold partsFitL at h2
    simp only [Bool.and_eq_true] at h2
    exact h2.2.2

theorem runsI_range {y lack : Int} (h0 : 0 ≤ y) : 0 ≤ runsI y lack ∧ runsI y lack ≤ max lack 0 := by
  unfold runsI
  split
  · omega
  · split
    · rename_i h1 h2
      refine ⟨Int.ediv_nonneg (by omega) (by omega), ?_⟩
      have : (lack + y - 1) / y ≤ lack := by
        apply Int.le_of_lt_add_one
        apply Int.ediv_lt_of_lt_mul h2
        have : lack * 1 ≤ lack * y := Int.mul_le_mul_of_nonneg_left (by omega) (by omega)
        rw [Int.add_mul]
        omega
      omega
    · omega

theorem runsI_made {y lack : Int} : lack ≤ madeI y (runsI y lack) := by
  unfold runsI madeI
  by_cases h1 : lack ≤ 0
  · rw [if_pos h1]
    split <;> omega
  · rw [if_neg h1]
    by_cases h2 : 0 < y
    · rw [if_pos h2, if_pos h2]
      have := Int.mul_ediv_add_emod (lack + y - 1) y
      have h3 := Int.emod_lt_of_pos (lack + y - 1) h2
      rw [Int.mul_comm] at this
      omega
    · rw [if_neg h2, if_neg h2]; omega

theorem runsI_less {y lack : Int} (h0 : 0 ≤ y) (h : 0 < runsI y lack) : madeI y (runsI y lack) - lack < max y 1 := by
  unfold runsI madeI at *
  split at h
  · omega
  · rename_i hl
    rw [if_neg hl]
    split at h
    · rename_i h2
      rw [if_pos h2, if_pos h2]
      have := Int.mul_ediv_add_emod (lack + y - 1) y
      have h3 := Int.emod_nonneg (lack + y - 1) (show y ≠ 0 by omega)
      rw [Int.mul_comm] at this
      omega
    · rename_i h2
      rw [if_neg h2, if_neg h2]
      omega

theorem runsI_least {y lack r : Int} (hr : 0 ≤ r) (h : lack ≤ madeI y r) : runsI y lack ≤ r := by
  unfold runsI madeI at *
  split
  · exact hr
  · split
    · rename_i h1 h2
      rw [if_pos h2] at h
      apply Int.le_of_lt_add_one
      apply Int.ediv_lt_of_lt_mul h2
      rw [Int.add_mul]
      omega
    · rename_i h1 h2
      rw [if_neg h2] at h
      exact h

theorem runsI_max {y lack : Int} (h0 : 0 ≤ y) : runsI y lack = (max lack 0 + max y 1 - 1) / max y 1 := by
  unfold runsI
  by_cases h1 : lack ≤ 0
  · rw [if_pos h1, Int.max_eq_right h1]
    exact (Int.ediv_eq_zero_of_lt (by omega) (by omega)).symm
  · rw [if_neg h1, Int.max_eq_left (show (0 : Int) ≤ lack by omega)]
    by_cases h2 : 0 < y
    · rw [if_pos h2, Int.max_eq_left (show (1 : Int) ≤ y by omega)]
    · rw [if_neg h2, show y = 0 by omega, show max (0 : Int) 1 = 1 from rfl, Int.ediv_one]; omega

/-- All runs from an index on, together. -/
def sumFrom (rs : List Int) (i : Nat) : Nat → Int
  | 0 => 0
  | m + 1 => sumFrom rs i m + (if i ≤ m then rs.getD m 0 else 0)

theorem sumFrom_first {rs : List Int} {i : Nat} : ∀ n : Nat, i < n → sumFrom rs i n = rs.getD i 0 + sumFrom rs (i + 1) n
  | 0, h => absurd h (by omega)
  | n + 1, h => by
    unfold sumFrom
    by_cases e : i = n
    · subst e
      rw [if_pos (Nat.le_refl _), if_neg (by omega)]
      have : ∀ m, m ≤ i → sumFrom rs i m = 0 ∧ sumFrom rs (i + 1) m = 0 := by
        intro m
        induction m with
        | zero => intro _; exact ⟨rfl, rfl⟩
        | succ m ih => intro hm; have := ih (by omega); unfold sumFrom; rw [if_neg (by omega), if_neg (by omega)]; omega
      have := this i (Nat.le_refl _)
      omega
    · have := sumFrom_first (rs := rs) n (show i < n by omega)
      rw [if_pos (by omega), if_pos (by omega)]
      omega

theorem sumFrom_last {rs : List Int} {i : Nat} : ∀ n : Nat, n ≤ i → sumFrom rs i n = 0
  | 0, _ => rfl
  | n + 1, h => by unfold sumFrom; rw [if_neg (by omega), sumFrom_last n (by omega)]; rfl

theorem upS_sum {l : List Item} {rs : List Int} {i : Nat} (h : itemsOk l = true) (h0 : ∀ k, 0 ≤ rs.getD k 0) : ∀ m : Nat, m ≤ l.length → 0 ≤ upS l rs i m ∧ upS l rs i m ≤ 6 * sumFrom rs (i + 1) m
  | 0, _ => by simp [upS, sumFrom]
  | m + 1, hm => by
    have a := upS_sum (i := i) h h0 m (by omega)
    have hx : l[m]? = some (l.getD m nil0) := by rw [List.getD_eq_getElem?_getD, List.getElem?_eq_getElem (by omega)]; rfl
    have b := conTo_one (itemsOk_go h hx) (itemsOk_many h m _ hx).2 (h0 m) i _ (Nat.le_refl _)
    rw [upS_succ]
    unfold sumFrom
    by_cases hi : i + 1 ≤ m
    · rw [if_pos hi]; omega
    · rw [if_neg hi, conTo_far (fun p hp => by have := itemsOk_less h m _ hx p hp; omega) _ (Nat.le_refl _)]; omega

theorem getD_zero {xs : List Int} {i : Nat} (h : xs.length ≤ i) : xs.getD i 0 = 0 := by
  rw [List.getD_eq_getElem?_getD, List.getElem?_eq_none h]; rfl

theorem getD_rng {most : Int} {xs : List Int} (h : rangeOk most xs = true) (h0 : 0 ≤ most) (i : Nat) : 0 ≤ xs.getD i 0 ∧ xs.getD i 0 ≤ most := by
  by_cases hi : i < xs.length
  · have := rangeOk_at h (List.getElem?_eq_getElem hi)
    rw [List.getD_eq_getElem?_getD, List.getElem?_eq_getElem hi]
    exact this
  · rw [getD_zero (by omega)]; omega

theorem yield_at {l : List Item} (h : itemsOk l = true) (i : Nat) : 0 ≤ (l.getD i nil0).yield ∧ (l.getD i nil0).yield ≤ 6 := by
  by_cases hi : i < l.length
  · have := itemsOk_at h (List.getElem?_eq_getElem hi)
    rw [List.getD_eq_getElem?_getD, List.getElem?_eq_getElem hi]
    exact ⟨this.2.2.1, this.2.2.2.1⟩
  · rw [List.getD_eq_getElem?_getD, List.getElem?_eq_none (by omega)]
    show (0 : Int) ≤ 0 ∧ (0 : Int) ≤ 6
    omega

theorem lstL_pos {l : List Item} {want stock : List Int} (h : itemsOk l = true) (k : Nat) : 0 ≤ (lstL l want stock).getD k 0 := by
  by_cases hk : k < l.length
  · rw [lstL_at h hk]
    exact (runsI_range (yield_at h k).1).1
  · rw [getD_zero (by rw [lstL_len]; omega)]; omega

theorem least_sum {l : List Item} {want stock : List Int} (h : amountsOk l want stock = true) {i : Nat} (hi : i < l.length) :
    (lstL l want stock).getD i 0 ≤ 50 + 6 * sumFrom (lstL l want stock) (i + 1) l.length ∧ sumFrom (lstL l want stock) i l.length ≤ 50 + 7 * sumFrom (lstL l want stock) (i + 1) l.length := by
  obtain ⟨h1, ⟨h2, h3⟩, ⟨h4, h5⟩⟩ := amountsOk_at h
  have a := lstL_at (want := want) (stock := stock) h1 hi
  have b := (runsI_range (y := (l.getD i nil0).yield) (lack := lackAt l want stock (lstL l want stock) i) (yield_at h1 i).1).2
  have c := upS_sum (i := i) h1 (fun k => lstL_pos (want := want) (stock := stock) h1 k) _ (Nat.le_refl _)
  have d := getD_rng h3 (by omega) i
  have e := getD_rng h5 (by omega) i
  have f := sumFrom_first (rs := lstL l want stock) l.length hi
  rw [← a] at b
  unfold lackAt at b
  omega

theorem lstL_bound {l : List Item} {want stock : List Int} (h : amountsOk l want stock = true) : ∀ i, (lstL l want stock).getD i 0 ≤ 9999999 := by
  obtain ⟨h1, -, -⟩ := amountsOk_at h
  have hl := itemsOk_len h1
  have hs : ∀ d i, i + d = 6 → sumFrom (lstL l want stock) i l.length ≤ (match d with | 0 => 0 | 1 => 50 | 2 => 400 | 3 => 2850 | 4 => 20000 | 5 => 140050 | _ => 980400) ∧ 0 ≤ sumFrom (lstL l want stock) i l.length := by
    intro d
    induction d with
    | zero => intro i hi; rw [sumFrom_last _ (by omega)]; simp
    | succ d ih =>
      intro i hi
      have a := ih (i + 1) (by omega)
      by_cases hil : i < l.length
      · have b := (least_sum h hil).2
        have c := sumFrom_first (rs := lstL l want stock) l.length hil
        have p := lstL_pos (want := want) (stock := stock) h1 i
        have hd : d = 0 ∨ d = 1 ∨ d = 2 ∨ d = 3 ∨ d = 4 ∨ d = 5 := by omega
        rcases hd with rfl | rfl | rfl | rfl | rfl | rfl <;> simp at a ⊢ <;> omega
      · rw [sumFrom_last _ (by omega)]
        have hd : d = 0 ∨ d = 1 ∨ d = 2 ∨ d = 3 ∨ d = 4 ∨ d = 5 := by omega
        rcases hd with rfl | rfl | rfl | rfl | rfl | rfl <;> simp
  intro i
  by_cases hil : i < l.length
  · have a := (least_sum h hil).1
    have b := hs (6 - (i + 1)) (i + 1) (by omega)
    have hd : i = 0 ∨ i = 1 ∨ i = 2 ∨ i = 3 ∨ i = 4 ∨ i = 5 := by omega
    rcases hd with rfl | rfl | rfl | rfl | rfl | rfl <;> simp at a b ⊢ <;> omega
  · rw [getD_zero (by rw [lstL_len]; omega)]; omega

theorem lstL_range {l : List Item} {want stock : List Int} (h : amountsOk l want stock = true) : rangeOk 9999999 (lstL l want stock) = true := by
  obtain ⟨h1, -, -⟩ := amountsOk_at h
  unfold rangeOk
  rw [List.all_eq_true]
  intro x hx
  obtain ⟨i, hi⟩ := List.mem_iff_getElem?.1 hx
  have e : (lstL l want stock).getD i 0 = x := by rw [List.getD_eq_getElem?_getD, hi]; rfl
  rw [inR_iff, ← e]
  exact ⟨lstL_pos h1 i, lstL_bound h i⟩

theorem lstL_runs {l : List Item} {want stock : List Int} (h : amountsOk l want stock = true) : runsOk l (lstL l want stock) = true := by
  unfold runsOk
  rw [lstL_range h, lstL_len]
  simp

theorem left_lack {l : List Item} {want stock rs : List Int} {i : Nat} : leftAt l want stock rs i = madeI (l.getD i nil0).yield (rs.getD i 0) - lackAt l want stock rs i := by
  unfold leftAt lackAt; omega

/-- What is left by the least plan. -/
def leastLeft (l : List Item) (want stock : List Int) : List Int := tab l.length (leftAt l want stock (lstL l want stock))

theorem allTo_all {P : Nat → Bool} : ∀ n, (∀ k, k < n → P k = true) → allTo P n = true
  | 0, _ => rfl
  | n + 1, h => by rw [allTo_succ, allTo_all n (fun k hk => h k (by omega)), h n (by omega)]; rfl
theorem allTo_at {P : Nat → Bool} : ∀ n, allTo P n = true → ∀ k, k < n → P k = true
  | 0, _, k, hk => absurd hk (by omega)
  | n + 1, h, k, hk => by
    rw [allTo_succ, Bool.and_eq_true] at h
    by_cases e : k = n
    · subst e; exact h.2
    · exact allTo_at n h.1 k (by omega)

theorem least_left {l : List Item} {want stock : List Int} (h : amountsOk l want stock = true) {i : Nat} (hi : i < l.length) : 0 ≤ leftAt l want stock (lstL l want stock) i ∧ leftAt l want stock (lstL l want stock) i ≤ 59999994 + 50 := by
  obtain ⟨h1, ⟨h2, h3⟩, ⟨h4, h5⟩⟩ := amountsOk_at h
  have a := runsI_made (y := (l.getD i nil0).yield) (lack := lackAt l want stock (lstL l want stock) i)
  rw [← lstL_at h1 hi] at a
  have b := madeI_range (yield_at h1 i).1 (yield_at h1 i).2 (lstL_pos (want := want) (stock := stock) h1 i) (lstL_bound h i)
  have c := upS_sum (i := i) h1 (fun k => lstL_pos (want := want) (stock := stock) h1 k) _ (Nat.le_refl _)
  have d := getD_rng h3 (by omega) i
  have e := getD_rng h5 (by omega) i
  rw [left_lack]
  unfold lackAt at *
  omega

theorem least_ok {l : List Item} {want stock : List Int} (h : amountsOk l want stock = true) : planOkL l want stock (lstL l want stock) (leastLeft l want stock) = true := by
  unfold planOkL
  rw [h, lstL_runs h, show (leastLeft l want stock).length = l.length from tab_len _ _]
  rw [allTo_all]
  · simp
  · intro k hk
    unfold okAt
    rw [decide_eq_true (least_left h hk).1, show (leastLeft l want stock).getD k 0 = _ from tab_getDp hk]
    simp

theorem least_few {l : List Item} {want stock : List Int} (h : amountsOk l want stock = true) {i : Nat} (hi : i < l.length) (hp : 0 < (lstL l want stock).getD i 0) : leftAt l want stock (lstL l want stock) i < max (l.getD i nil0).yield 1 := by
  obtain ⟨h1, -, -⟩ := amountsOk_at h
  rw [left_lack]
  rw [lstL_at h1 hi] at hp ⊢
  exact runsI_less (yield_at h1 i).1 hp

theorem conTo_le {ps : List Part} {r r' : Int} (hp : ∀ p ∈ ps, 0 ≤ p.many ∧ p.many ≤ 6) (hr : r ≤ r') (j : Nat) : ∀ k : Nat, conTo ps r j k ≤ conTo ps r' j k
  | 0 => Int.le_refl _
  | k + 1 => by
    have a := conTo_le hp hr j k
    have b := getD_parts hp k
    have c : (ps.getD k ⟨0, 0⟩).many * r ≤ (ps.getD k ⟨0, 0⟩).many * r' := Int.mul_le_mul_of_nonneg_left hr b.1
    rw [conTo_succ, conTo_succ]
    split <;> omega

theorem upS_le {l : List Item} {rs rs' : List Int} {i : Nat} (h : itemsOk l = true) (hr : ∀ k, i < k → k < l.length → rs.getD k 0 ≤ rs'.getD k 0) : ∀ m : Nat, m ≤ l.length → upS l rs i m ≤ upS l rs' i m
  | 0, _ => Int.le_refl _
  | m + 1, hm => by
    have a := upS_le (i := i) h hr m (by omega)
    have hx : l[m]? = some (l.getD m nil0) := by rw [List.getD_eq_getElem?_getD, List.getElem?_eq_getElem (by omega)]; rfl
    rw [upS_succ, upS_succ]
    by_cases hi : i < m
    · have := conTo_le (itemsOk_many h m _ hx).2 (hr m hi (by omega)) i (l.getD m nil0).parts.length
      omega
    · rw [conTo_far (fun p hp => by have := itemsOk_less h m _ hx p hp; omega) _ (Nat.le_refl _), conTo_far (fun p hp => by have := itemsOk_less h m _ hx p hp; omega) _ (Nat.le_refl _)]; omega

theorem planOk_parts {l : List Item} {want stock rs lf : List Int} (h : planOkL l want stock rs lf = true) : amountsOk l want stock = true ∧ runsOk l rs = true ∧ lf.length = l.length ∧ ∀ k, k < l.length → 0 ≤ leftAt l want stock rs k ∧ lf.getD k 0 = leftAt l want stock rs k := by
  unfold planOkL at h
  simp only [Bool.and_eq_true, decide_eq_true_eq] at h
  obtain ⟨h1, h2, h3, h4⟩ := h
  refine ⟨h1, h2, by omega, fun k hk => ?_⟩
  have := allTo_at _ h4 k hk
  unfold okAt at this
  simp only [Bool.and_eq_true, decide_eq_true_eq] at this
  exact ⟨this.1, this.2.symm⟩

/-- No plan has fewer runs of anything. -/
theorem least_le {l : List Item} {want stock rs lf : List Int} (h : planOkL l want stock rs lf = true) : ∀ d i, i + d = l.length → ∀ k, i ≤ k → k < l.length → (lstL l want stock).getD k 0 ≤ rs.getD k 0 := by
  obtain ⟨h0, h2, h3, h4⟩ := planOk_parts h
  obtain ⟨h1, -, -⟩ := amountsOk_at h0
  intro d
  induction d with
  | zero => intro i hi k hk hkl; omega
  | succ d ih =>
    intro i hi k hk hkl
    by_cases e : i < k
    · exact ih (i + 1) (by omega) k (by omega) hkl
    · obtain rfl : i = k := by omega
      rw [lstL_at h1 hkl]
      refine runsI_least (getD_rng (runsOk_at h2).2 (by omega) i).1 ?_
      have a := upS_le (i := i) h1 (fun k hk hkl => ih (i + 1) (by omega) k (by omega) hkl) l.length (Nat.le_refl _)
      have b := (h4 i hkl).1
      rw [left_lack] at b
      unfold lackAt at *
      omega
end Go.Proofs.YtjegebnnlomcpaaDoor
