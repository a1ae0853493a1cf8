/- UnitMath: fractions in lowest terms; that the model's and the program's sums over the parts of an item come to the same.
   Conditions: none. -/
namespace Go.Proofs.YtjegebnnlomcpaaDoor

/-- A fraction in lowest terms. -/
def lowN (n d : Nat) : Nat × Nat := (n / n.gcd d, d / n.gcd d)
theorem lowN_scale {n d e : Nat} (he : 0 < e) : lowN (n * e) (d * e) = lowN n d := by
  unfold lowN
  rw [Nat.gcd_mul_right, Nat.mul_div_mul_right _ _ he, Nat.mul_div_mul_right _ _ he]
theorem lowN_same {n d m e : Nat} (hd : 0 < d) (he : 0 < e) (h : n * e = m * d) : lowN n d = lowN m e := by
  rw [← lowN_scale (n := n) (d := d) he, h, Nat.mul_comm d e, lowN_scale hd]
theorem lowN_val {n d : Nat} (hd : 0 < d) : (lowN n d).1 * d = n * (lowN n d).2 := by
  have hg : 0 < n.gcd d := Nat.gcd_pos_of_pos_right n hd
  obtain ⟨a, ha⟩ := Nat.gcd_dvd_left n d
  obtain ⟨b, hb⟩ := Nat.gcd_dvd_right n d
  have e1 : n / n.gcd d = a := Nat.div_eq_of_eq_mul_right hg ha
  have e2 : d / n.gcd d = b := Nat.div_eq_of_eq_mul_right hg hb
  unfold lowN
  rw [e1, e2]
  show a * d = n * b
  calc a * d = a * (n.gcd d * b) := by rw [← hb]
    _ = n.gcd d * a * b := by rw [Nat.mul_left_comm, Nat.mul_assoc]
    _ = n * b := by rw [← ha]
theorem lowN_pos {n d : Nat} (hd : 0 < d) : 0 < (lowN n d).2 := by
  have hg : 0 < n.gcd d := Nat.gcd_pos_of_pos_right n hd
  exact Nat.div_pos (Nat.gcd_le_right n hd) hg
theorem lowN_dvd (n d : Nat) : (lowN n d).2 ∣ d := Nat.div_dvd_of_dvd (Nat.gcd_dvd_right n d)
theorem lowN_le (n d : Nat) : (lowN n d).1 ≤ n ∧ (lowN n d).2 ≤ d := ⟨Nat.div_le_self _ _, Nat.div_le_self _ _⟩

/-- The model's sum over parts (many, what a unit costs), from (0, y) on. -/
def sumS (y : Nat) : Nat × Nat → List (Nat × Nat × Nat) → Nat × Nat
  | x, [] => x
  | x, (m, a, b) :: r => sumS y (x.1 * b + m * a * x.2 / y, x.2 * b) r
/-- The program's. -/
def sumI : Nat × Nat → List (Nat × Nat × Nat) → Nat × Nat
  | s, [] => s
  | s, (m, a, b) :: r => sumI (lowN (s.1 * b + m * a * s.2) (s.2 * b)) r
theorem sum_both {y : Nat} (hy : 0 < y) : ∀ (ps : List (Nat × Nat × Nat)) (x s : Nat × Nat) (q : Nat), (∀ p ∈ ps, 0 < p.2.2) → 0 < q → 0 < s.2 → x.2 = y * q → x.1 * s.2 = s.1 * q →
    lowN (sumS y x ps).1 (sumS y x ps).2 = lowN (sumI s ps).1 ((sumI s ps).2 * y)
  | [], x, s, q, _, hq, hs, hx, he => by
    show lowN x.1 x.2 = lowN s.1 (s.2 * y)
    refine lowN_same (by rw [hx]; exact Nat.mul_pos hy hq) (Nat.mul_pos hs hy) ?_
    rw [hx, ← Nat.mul_assoc, he, Nat.mul_assoc, Nat.mul_comm q y]
  | (m, a, b) :: r, x, s, q, hp, hq, hs, hx, he => by
    have hb : 0 < b := hp (m, a, b) (by simp)
    have hd : m * a * x.2 / y = m * a * q := by
      rw [hx, show m * a * (y * q) = y * (m * a * q) from by rw [Nat.mul_left_comm], Nat.mul_div_cancel_left _ hy]
    have hB : 0 < s.2 * b := Nat.mul_pos hs hb
    rw [sumS, sumI, hd]
    refine sum_both hy r _ _ (q * b) (fun p h => hp p (by simp [h])) (Nat.mul_pos hq hb) (lowN_pos hB) (by show x.2 * b = y * (q * b); rw [hx, Nat.mul_assoc]) ?_
    have hv := lowN_val (n := s.1 * b + m * a * s.2) hB
    generalize lowN (s.1 * b + m * a * s.2) (s.2 * b) = z at hv ⊢
    refine Nat.eq_of_mul_eq_mul_right hB ?_
    have h1 : (x.1 * b + m * a * q) * (s.2 * b) = q * b * (s.1 * b + m * a * s.2) := by
      have e1 : x.1 * b * (s.2 * b) = q * b * (s.1 * b) := by
        calc x.1 * b * (s.2 * b) = x.1 * s.2 * (b * b) := by ac_rfl
          _ = s.1 * q * (b * b) := by rw [he]
          _ = q * b * (s.1 * b) := by ac_rfl
      have e2 : m * a * q * (s.2 * b) = q * b * (m * a * s.2) := by ac_rfl
      rw [Nat.add_mul, Nat.mul_add, e1, e2]
    calc (x.1 * b + m * a * q) * z.2 * (s.2 * b) = (x.1 * b + m * a * q) * (s.2 * b) * z.2 := by ac_rfl
      _ = q * b * (s.1 * b + m * a * s.2) * z.2 := by rw [h1]
      _ = q * b * ((s.1 * b + m * a * s.2) * z.2) := by ac_rfl
      _ = q * b * (z.1 * (s.2 * b)) := by rw [hv]
      _ = z.1 * (q * b) * (s.2 * b) := by ac_rfl
/-- Both come to the same. -/
theorem share_both {y : Nat} (hy : 0 < y) (ps : List (Nat × Nat × Nat)) (hp : ∀ p ∈ ps, 0 < p.2.2) : lowN (sumS y (0, y) ps).1 (sumS y (0, y) ps).2 = lowN (sumI (0, 1) ps).1 ((sumI (0, 1) ps).2 * y) :=
  sum_both hy ps (0, y) (0, 1) 1 hp (by omega) (by omega) (by simp) (by simp)

/-- The denominator in lowest terms divides whatever makes the fraction whole. -/
theorem lowN_den {n d T : Nat} (hd : 0 < d) (h : d ∣ n * T) : (lowN n d).2 ∣ T := by
  have hg : 0 < n.gcd d := Nat.gcd_pos_of_pos_right n hd
  obtain ⟨a, ha⟩ := Nat.gcd_dvd_left n d
  obtain ⟨b, hb⟩ := Nat.gcd_dvd_right n d
  have e2 : d / n.gcd d = b := Nat.div_eq_of_eq_mul_right hg hb
  have hc : Nat.gcd a b = 1 := by
    have e := Nat.gcd_mul_left (n.gcd d) a b
    rw [← ha, ← hb] at e
    exact Nat.eq_of_mul_eq_mul_left hg (by rw [Nat.mul_one]; exact e.symm)
  unfold lowN
  rw [e2]
  show b ∣ T
  have h2 : n.gcd d * b ∣ n.gcd d * (a * T) := by
    rw [← hb, ← Nat.mul_assoc, ← ha]
    exact h
  have h3 : b ∣ a * T := Nat.dvd_of_mul_dvd_mul_left hg h2
  exact Nat.Coprime.dvd_of_dvd_mul_left (Nat.Coprime.symm hc) h3
theorem sumI_dvd {T : Nat} : ∀ (ps : List (Nat × Nat × Nat)) (s : Nat × Nat), (∀ p ∈ ps, 0 < p.2.2 ∧ p.2.2 ∣ T) → 0 < s.2 → s.2 ∣ T → 0 < (sumI s ps).2 ∧ (sumI s ps).2 ∣ T
  | [], _, _, h0, h => ⟨h0, h⟩
  | (m, a, b) :: r, s, hp, h0, h => by
    obtain ⟨hb, hbT⟩ := hp (m, a, b) (by simp)
    have hB : 0 < s.2 * b := Nat.mul_pos h0 hb
    rw [sumI]
    refine sumI_dvd r _ (fun p h => hp p (by simp [h])) (lowN_pos hB) (lowN_den hB ?_)
    obtain ⟨u, hu⟩ := h
    obtain ⟨v, hv⟩ := hbT
    rw [Nat.add_mul]
    refine Nat.dvd_add ?_ ?_
    · exact ⟨s.1 * u, by rw [hu]; ac_rfl⟩
    · exact ⟨m * a * v, by show m * a * s.2 * T = s.2 * b * (m * a * v); rw [show T = b * v from hv]; ac_rfl⟩
/-- How great the sum gets. -/
theorem sumI_rng {C M : Nat} : ∀ (ps : List (Nat × Nat × Nat)) (s : Nat × Nat) (K : Nat), (∀ p ∈ ps, 0 < p.2.2 ∧ p.1 ≤ M ∧ p.2.1 ≤ C * p.2.2) → 0 < s.2 → s.1 ≤ K * s.2 → (sumI s ps).1 ≤ (K + M * C * ps.length) * (sumI s ps).2
  | [], s, K, _, _, h => by
    show s.1 ≤ (K + M * C * 0) * s.2
    rw [Nat.mul_zero, Nat.add_zero]
    exact h
  | (m, a, b) :: r, s, K, hp, h0, h => by
    obtain ⟨hb, hm, ha⟩ := hp (m, a, b) (by simp)
    have hB : 0 < s.2 * b := Nat.mul_pos h0 hb
    rw [sumI, List.length_cons, show K + M * C * (r.length + 1) = K + M * C + M * C * r.length from by rw [Nat.mul_add, Nat.mul_one]; omega]
    refine sumI_rng r _ (K + M * C) (fun p h => hp p (by simp [h])) (lowN_pos hB) ?_
    have hv := lowN_val (n := s.1 * b + m * a * s.2) hB
    generalize lowN (s.1 * b + m * a * s.2) (s.2 * b) = z at hv ⊢
    have hA : s.1 * b + m * a * s.2 ≤ (K + M * C) * (s.2 * b) := by
      rw [Nat.add_mul]
      refine Nat.add_le_add ?_ ?_
      · calc s.1 * b ≤ K * s.2 * b := Nat.mul_le_mul_right b h
          _ = K * (s.2 * b) := by rw [Nat.mul_assoc]
      · calc m * a * s.2 ≤ M * (C * b) * s.2 := Nat.mul_le_mul_right _ (Nat.mul_le_mul hm ha)
          _ = M * C * (s.2 * b) := by ac_rfl
    refine Nat.le_of_mul_le_mul_right ?_ hB
    calc z.1 * (s.2 * b) = (s.1 * b + m * a * s.2) * z.2 := hv
      _ ≤ (K + M * C) * (s.2 * b) * z.2 := Nat.mul_le_mul_right _ hA
      _ = (K + M * C) * z.2 * (s.2 * b) := by ac_rfl
/-- The whole of it: what a unit of an item that is made costs. -/
theorem share_dvd {T y : Nat} (hy : 0 < y) (ps : List (Nat × Nat × Nat)) (hp : ∀ p ∈ ps, 0 < p.2.2 ∧ p.2.2 ∣ T) :
    0 < (lowN (sumI (0, 1) ps).1 ((sumI (0, 1) ps).2 * y)).2 ∧ (lowN (sumI (0, 1) ps).1 ((sumI (0, 1) ps).2 * y)).2 ∣ T * y := by
  obtain ⟨h0, u, hu⟩ := sumI_dvd ps (0, 1) hp (by omega) ⟨T, by simp⟩
  have hB := Nat.mul_pos h0 hy
  exact ⟨lowN_pos hB, lowN_den hB ⟨(sumI (0, 1) ps).1 * u, by rw [hu]; ac_rfl⟩⟩
theorem share_rng {C M y : Nat} (hy : 0 < y) (ps : List (Nat × Nat × Nat)) (hp : ∀ p ∈ ps, 0 < p.2.2 ∧ p.1 ≤ M ∧ p.2.1 ≤ C * p.2.2) (h0 : 0 < (sumI (0, 1) ps).2) :
    (lowN (sumI (0, 1) ps).1 ((sumI (0, 1) ps).2 * y)).1 ≤ M * C * ps.length * (lowN (sumI (0, 1) ps).1 ((sumI (0, 1) ps).2 * y)).2 := by
  have h := sumI_rng ps (0, 1) 0 hp (by omega) (by simp)
  rw [Nat.zero_add] at h
  have hB := Nat.mul_pos h0 hy
  have hv := lowN_val (n := (sumI (0, 1) ps).1) hB
  generalize lowN (sumI (0, 1) ps).1 ((sumI (0, 1) ps).2 * y) = z at hv ⊢
  refine Nat.le_of_mul_le_mul_right ?_ hB
  calc z.1 * ((sumI (0, 1) ps).2 * y) = (sumI (0, 1) ps).1 * z.2 := hv
    _ ≤ M * C * ps.length * (sumI (0, 1) ps).2 * z.2 := Nat.mul_le_mul_right _ h
    _ ≤ M * C * ps.length * (sumI (0, 1) ps).2 * z.2 * y := Nat.le_mul_of_pos_right _ hy
    _ = M * C * ps.length * z.2 * ((sumI (0, 1) ps).2 * y) := by ac_rfl
end Go.Proofs.YtjegebnnlomcpaaDoor
