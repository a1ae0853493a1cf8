/- UnitDual: what the least plan for some units costs is at least as much as these units cost each.
   Conditions: the items and the prices are valid. -/
import Derived.Test.YtjegebnnlomcpaaDoorUnitL
import Derived.Test.YtjegebnnlomcpaaDoorPlanMath
namespace Go.Proofs.YtjegebnnlomcpaaDoor

/-! ### what a unit costs, by a common multiple -/
theorem sumI_val {T : Nat} (M : Nat → Nat) : ∀ (ps : List (Nat × Nat × Nat)) (js : List Nat) (s : Nat × Nat) (K : Nat), js.length = ps.length → (∀ (i : Nat) (q : Nat × Nat × Nat) (j : Nat), ps[i]? = some q → js[i]? = some j → 0 < q.2.2 ∧ M j * q.2.2 = q.2.1 * T) → 0 < s.2 → s.1 * T = s.2 * K →
    0 < (sumI s ps).2 ∧ (sumI s ps).1 * T = (sumI s ps).2 * (K + ((ps.zip js).map (fun z => z.1.1 * M z.2)).sum)
  | [], js, s, K, _, _, h0, h => ⟨h0, by simpa [sumI] using h⟩
  | (m, a, b) :: r, [], s, K, hl, _, _, _ => by simp at hl
  | (m, a, b) :: r, j :: js, s, K, hl, hp, h0, h => by
    obtain ⟨hb, hM⟩ := hp 0 (m, a, b) j rfl rfl
    have hB : 0 < s.2 * b := Nat.mul_pos h0 hb
    rw [sumI]
    have hv := lowN_val (n := s.1 * b + m * a * s.2) hB
    have hz := lowN_pos (n := s.1 * b + m * a * s.2) hB
    generalize lowN (s.1 * b + m * a * s.2) (s.2 * b) = z at hv hz ⊢
    have h1 : (s.1 * b + m * a * s.2) * T = s.2 * b * (K + m * M j) := by
      rw [Nat.add_mul, Nat.mul_add]
      congr 1
      · calc s.1 * b * T = s.1 * T * b := by ac_rfl
          _ = s.2 * K * b := by rw [h]
          _ = s.2 * b * K := by ac_rfl
      · calc m * a * s.2 * T = m * s.2 * (a * T) := by ac_rfl
          _ = m * s.2 * (M j * b) := by rw [hM]
          _ = s.2 * b * (m * M j) := by ac_rfl
    have h2 : z.1 * T = z.2 * (K + m * M j) := by
      refine Nat.eq_of_mul_eq_mul_right hB ?_
      calc z.1 * T * (s.2 * b) = z.1 * (s.2 * b) * T := by ac_rfl
        _ = (s.1 * b + m * a * s.2) * z.2 * T := by rw [hv]
        _ = (s.1 * b + m * a * s.2) * T * z.2 := by ac_rfl
        _ = s.2 * b * (K + m * M j) * z.2 := by rw [h1]
        _ = z.2 * (K + m * M j) * (s.2 * b) := by ac_rfl
    have := sumI_val M r js z (K + m * M j) (by simpa using hl) (fun i q j' h3 h4 => hp (i + 1) q j' (by simpa using h3) (by simpa using h4)) hz h2
    refine ⟨this.1, ?_⟩
    rw [this.2, List.zip_cons_cons, List.map_cons, List.sum_cons, Nat.add_assoc]

/-- What parts cost together, counted by a common multiple. -/
def partsV (M : Nat → Nat) (ps : List Part) : Nat := (ps.map (fun p => p.many.toNat * M p.of.toNat)).sum
theorem partsV_zip (M : Nat → Nat) (cs : List (Nat × Nat)) : ∀ ps : List Part, (((partsN cs ps).zip (ps.map (fun p => p.of.toNat))).map (fun z => z.1.1 * M z.2)).sum = partsV M ps
  | [] => rfl
  | p :: r => by
    have := partsV_zip M cs r
    unfold partsN partsV at this ⊢
    rw [List.map_cons, List.map_cons, List.zip_cons_cons, List.map_cons, List.sum_cons, List.map_cons, List.sum_cons, this]

def unitM (T : Nat) (cs : List (Nat × Nat)) (i : Nat) : Nat := (cs.getD i (0, 1)).1 * (T / (cs.getD i (0, 1)).2)
theorem unitM_at {C T : Nat} {cs : List (Nat × Nat)} (h : UnitsOk C T cs) {i : Nat} {c : Nat × Nat} (hi : cs[i]? = some c) : 0 < c.2 ∧ unitM T cs i * c.2 = c.1 * T := by
  obtain ⟨h1, ⟨u, hu⟩, -⟩ := h c (List.mem_of_getElem? hi)
  have e : cs.getD i (0, 1) = c := by rw [List.getD_eq_getElem?_getD, hi]; rfl
  refine ⟨h1, ?_⟩
  unfold unitM
  rw [e, hu, Nat.mul_div_cancel_left _ h1]
  ac_rfl

theorem unitsN_get (l : List Item) (ps : List Int) {i : Nat} : ∀ k, i < k → (unitsN l ps k)[i]? = some (unitOf (unitsN l ps i) (l.getD i default) (ps.getD i 0))
  | 0, h => absurd h (by omega)
  | k + 1, h => by
    rw [unitsN]
    by_cases e : i = k
    · subst e
      rw [List.getElem?_append_right (by rw [unitsN_len]; exact Nat.le_refl _), unitsN_len, Nat.sub_self]
      rfl
    · rw [List.getElem?_append_left (by rw [unitsN_len]; omega)]
      exact unitsN_get l ps k (by omega)
theorem unitsN_pre (l : List Item) (ps : List Int) {i j k : Nat} (h : j < i) (hk : i ≤ k) : (unitsN l ps i)[j]? = (unitsN l ps k)[j]? := by
  rw [unitsN_get l ps i h, unitsN_get l ps k (by omega)]

/-- What is made costs what its parts cost; what is bought costs its price. -/
theorem unitM_rel {l : List Item} {ps : List Int} {C T n : Nat} (hI : itemsOk l = true) (h : UnitsOk C T (unitsN l ps n)) {i : Nat} (hi : i < n) {x : Item} (hx : l[i]? = some x) :
    (0 < x.yield → x.yield.toNat * unitM T (unitsN l ps n) i = partsV (unitM T (unitsN l ps n)) x.parts) ∧ (¬ 0 < x.yield → unitM T (unitsN l ps n) i = (ps.getD i 0).toNat * T) := by
  have e1 : l.getD i default = x := by rw [List.getD_eq_getElem?_getD, hx]; rfl
  have hu := unitsN_get l ps n hi
  rw [e1] at hu
  obtain ⟨h0, hM⟩ := unitM_at h hu
  obtain ⟨-, -, -, -, -, -, hp⟩ := itemsOk_at hI hx
  constructor
  · intro hy
    have hyn : 0 < x.yield.toNat := by omega
    have hS := sumI_val (T := T) (unitM T (unitsN l ps n)) (partsN (unitsN l ps i) x.parts) (x.parts.map (fun p => p.of.toNat)) (0, 1) 0 (by unfold partsN; rw [List.length_map, List.length_map]) (fun m q j h1 h2 => by
      unfold partsN at h1
      rw [List.getElem?_map] at h1 h2
      cases e : x.parts[m]? with
      | none => rw [e] at h1; simp at h1
      | some p =>
        rw [e] at h1 h2
        simp only [Option.map_some, Option.some.injEq] at h1 h2
        subst h1 h2
        have hq := hp p (List.mem_of_getElem? e)
        obtain ⟨c, hc⟩ : ∃ c, (unitsN l ps i)[p.of.toNat]? = some c := ⟨_, List.getElem?_eq_getElem (by rw [unitsN_len]; omega)⟩
        have e2 : (unitsN l ps i).getD p.of.toNat (0, 1) = c := by rw [List.getD_eq_getElem?_getD, hc]; rfl
        have hc2 := hc
        rw [unitsN_pre l ps (by omega) (Nat.le_of_lt hi)] at hc2
        show 0 < ((unitsN l ps i).getD p.of.toNat (0, 1)).2 ∧ unitM T (unitsN l ps n) p.of.toNat * ((unitsN l ps i).getD p.of.toNat (0, 1)).2 = ((unitsN l ps i).getD p.of.toNat (0, 1)).1 * T
        rw [e2]
        exact unitM_at h hc2) (by omega) (by simp)
    rw [Nat.zero_add, partsV_zip] at hS
    obtain ⟨hS0, hS1⟩ := hS
    unfold unitOf at h0 hM
    rw [if_pos hy] at h0 hM
    generalize partsV (unitM T (unitsN l ps n)) x.parts = K at hS1 ⊢
    generalize unitM T (unitsN l ps n) i = m at hM ⊢
    generalize sumI (0, 1) (partsN (unitsN l ps i) x.parts) = S at hS0 hS1 h0 hM
    have hB : 0 < S.2 * x.yield.toNat := Nat.mul_pos hS0 hyn
    have hv := lowN_val (n := S.1) hB
    generalize lowN S.1 (S.2 * x.yield.toNat) = z at hv hM h0
    generalize x.yield.toNat = y at *
    refine Nat.eq_of_mul_eq_mul_right (Nat.mul_pos h0 hS0) ?_
    calc y * m * (z.2 * S.2) = m * z.2 * (S.2 * y) := by ac_rfl
      _ = z.1 * T * (S.2 * y) := by rw [hM]
      _ = z.1 * (S.2 * y) * T := by ac_rfl
      _ = S.1 * z.2 * T := by rw [hv]
      _ = S.1 * T * z.2 := by ac_rfl
      _ = S.2 * K * z.2 := by rw [hS1]
      _ = K * (z.2 * S.2) := by ac_rfl
  · intro hy
    unfold unitOf at h0 hM
    rw [if_neg hy] at h0 hM
    simpa using hM

/-! ### no plan costs less -/
def sumM (M : Nat → Int) (f : Nat → Int) : Nat → Int
  | 0 => 0
  | n + 1 => sumM M f n + M n * f n
theorem sumM_add {M f g h : Nat → Int} (e : ∀ j, h j = f j + g j) : ∀ n, sumM M h n = sumM M f n + sumM M g n
  | 0 => rfl
  | n + 1 => by rw [sumM, sumM, sumM, sumM_add e n, e, Int.mul_add]; omega
theorem sumM_le {M f g : Nat → Int} : ∀ n, (∀ j, j < n → 0 ≤ M j ∧ f j ≤ g j) → sumM M f n ≤ sumM M g n
  | 0, _ => Int.le_refl _
  | n + 1, h => by
    have a := sumM_le n (fun j hj => h j (by omega))
    have b := h n (by omega)
    have c : M n * f n ≤ M n * g n := Int.mul_le_mul_of_nonneg_left b.2 b.1
    rw [sumM, sumM]
    omega
theorem sumM_none {M f : Nat → Int} : ∀ n, (∀ j, j < n → f j = 0) → sumM M f n = 0
  | 0, _ => rfl
  | n + 1, h => by rw [sumM, sumM_none n (fun j hj => h j (by omega)), h n (by omega)]; simp
theorem sumM_one {M f : Nat → Int} {i : Nat} {v : Int} (h0 : ∀ j, j ≠ i → f j = 0) (h1 : f i = v) : ∀ n, i < n → sumM M f n = M i * v
  | 0, h => absurd h (by omega)
  | n + 1, h => by
    rw [sumM]
    by_cases e : i = n
    · subst e
      rw [sumM_none i (fun j hj => h0 j (by omega)), h1]
      omega
    · rw [sumM_one h0 h1 n (by omega), h0 n (by omega)]
      simp
def partsI (M : Nat → Int) (ps : List Part) : Nat → Int
  | 0 => 0
  | k + 1 => partsI M ps k + (ps.getD k ⟨0, 0⟩).many * M (ps.getD k ⟨0, 0⟩).of.toNat
theorem sum_con {M : Nat → Int} {ps : List Part} {r : Int} {n : Nat} (hp : ∀ p ∈ ps, 0 ≤ p.of ∧ p.of < (n : Int)) : ∀ m, m ≤ ps.length → sumM M (fun j => conTo ps r j m) n = r * partsI M ps m
  | 0, _ => by rw [sumM_none (f := fun j => conTo ps r j 0) n (fun j _ => rfl), partsI]; simp
  | m + 1, hm => by
    rw [sumM_add (f := fun j => conTo ps r j m) (g := fun j => if (ps.getD m ⟨0, 0⟩).of = (j : Int) then (ps.getD m ⟨0, 0⟩).many * r else 0) (fun j => conTo_succ ps r j m), sum_con hp m (by omega), partsI]
    have hq := hp (ps.getD m ⟨0, 0⟩) (by rw [List.getD_eq_getElem?_getD, List.getElem?_eq_getElem (by omega)]; exact List.getElem_mem _)
    rw [sumM_one (i := (ps.getD m ⟨0, 0⟩).of.toNat) (v := (ps.getD m ⟨0, 0⟩).many * r) (fun j hj => if_neg (by omega)) (if_pos (by omega)) n (by omega), Int.mul_add]
    congr 1
    ac_rfl
theorem partsI_V (M : Nat → Nat) (ps : List Part) (hp : ∀ p ∈ ps, 0 ≤ p.many) : ∀ m, m ≤ ps.length → partsI (fun j => (M j : Int)) ps m = (partsV M (ps.take m) : Int)
  | 0, _ => rfl
  | m + 1, hm => by
    rw [partsI, partsI_V M ps hp m (by omega), List.getD_eq_getElem?_getD, List.getElem?_eq_getElem (show m < ps.length by omega), List.take_succ_eq_append_getElem (show m < ps.length by omega)]
    have h0 := hp _ (List.getElem_mem (show m < ps.length by omega))
    generalize ps[m] = p at h0 ⊢
    unfold partsV
    rw [List.map_append, List.sum_append]
    simp only [Option.getD_some, List.map_cons, List.map_nil, List.sum_cons, List.sum_nil]
    rw [Int.natCast_add, Nat.add_zero, Int.natCast_mul, Int.toNat_of_nonneg h0]

theorem sum_up {l : List Item} {rs ps : List Int} {M : Nat → Nat} {T : Nat} (hI : itemsOk l = true) (hR : ∀ i x, l[i]? = some x → (0 < x.yield → x.yield.toNat * M i = partsV M x.parts) ∧ (¬ 0 < x.yield → (M i : Int) = ps.getD i 0 * T)) : ∀ m, m ≤ l.length →
    sumM (fun j => (M j : Int)) (fun j => upS l rs j m) l.length + T * costTo l rs ps m = sumM (fun j => (M j : Int)) (fun j => madeI (l.getD j nil0).yield (rs.getD j 0)) m
  | 0, _ => by rw [sumM_none (f := fun j => upS l rs j 0) _ (fun j _ => rfl), sumM, costTo]; simp
  | m + 1, hm => by
    have hx := List.getElem?_eq_getElem (show m < l.length by omega)
    obtain ⟨hr1, hr2⟩ := hR m _ hx
    obtain ⟨-, -, hy0, -, -, hyp, hpo⟩ := itemsOk_at hI hx
    have e1 : l.getD m nil0 = l[m] := by rw [List.getD_eq_getElem?_getD, hx]; rfl
    have e2 : l.getD m instItem.default = l[m] := by rw [List.getD_eq_getElem?_getD, hx]; rfl
    rw [sumM_add (f := fun j => upS l rs j m) (g := fun j => conTo (l.getD m nil0).parts (rs.getD m 0) j (l.getD m nil0).parts.length) (fun j => upS_succ l rs j m), costTo, sumM, Int.mul_add, e1, e2]
    have ih := sum_up hI hR m (by omega) (rs := rs)
    rw [sum_con (n := l.length) (fun p hp => by have := hpo p hp; omega) _ (Nat.le_refl _), partsI_V M _ (fun p hp => by have := hpo p hp; omega) _ (Nat.le_refl _), List.take_length]
    generalize l[m] = x at *
    by_cases hy : 0 < x.yield
    · rw [show madeI x.yield (rs.getD m 0) = rs.getD m 0 * x.yield from if_pos hy, if_neg (by omega), ← hr1 hy, Int.natCast_mul, Int.toNat_of_nonneg hy0]
      have e3 : rs.getD m 0 * (x.yield * (M m : Int)) = (M m : Int) * (rs.getD m 0 * x.yield) := by ac_rfl
      rw [e3]
      omega
    · rw [show madeI x.yield (rs.getD m 0) = rs.getD m 0 from if_neg hy, if_pos (by omega), hr2 hy, hyp.1 (by omega)]
      have e3 : (T : Int) * (rs.getD m 0 * ps.getD m 0) = ps.getD m 0 * T * rs.getD m 0 := by ac_rfl
      rw [e3, show ((partsV M [] : Nat) : Int) = 0 from rfl, Int.mul_zero, Int.add_zero]
      omega

/-- What the least plan costs, with nothing in stock. -/
theorem plan_dual {l : List Item} {ps want stock : List Int} {q n : Nat} (hP : pricesOk l ps = true) (hA : amountsOk l want stock = true) (hz : ∀ i, stock.getD i 0 = 0) (hq : q < l.length) (hw : want.getD q 0 = n) (hw0 : ∀ j, j ≠ q → want.getD j 0 = 0)
    {c : Nat × Nat} (hc : (unitsN l ps (q + 1))[q]? = some c) : 0 < c.2 ∧ (n * c.1 : Nat) ≤ costL l ps (lstL l want stock) * c.2 := by
  obtain ⟨hI, hpl, hpr⟩ := pricesOk_at hP
  obtain ⟨m, hm⟩ : ∃ m, l.length = m + 1 := ⟨l.length - 1, by omega⟩
  obtain ⟨T, hT0, -, hU⟩ := units_ok hI hpr (by omega) m (by omega)
  rw [← hm] at hU
  have hc2 := hc
  rw [unitsN_pre l ps (by omega) (show q + 1 ≤ l.length by omega)] at hc2
  obtain ⟨h0, hM⟩ := unitM_at hU hc2
  have hR : ∀ i x, l[i]? = some x → (0 < x.yield → x.yield.toNat * unitM T (unitsN l ps l.length) i = partsV (unitM T (unitsN l ps l.length)) x.parts) ∧ (¬ 0 < x.yield → ((unitM T (unitsN l ps l.length) i : Nat) : Int) = ps.getD i 0 * T) := fun i x hx => by
    have hi := (List.getElem?_eq_some_iff.1 hx).1
    obtain ⟨r1, r2⟩ := unitM_rel hI hU hi hx
    refine ⟨r1, fun hy => ?_⟩
    have := getD_rng hpr (by omega) i
    rw [r2 hy, Int.natCast_mul, Int.toNat_of_nonneg this.1]
  have hs := sum_up hI hR l.length (Nat.le_refl _) (rs := lstL l want stock)
  have hcost : costL l ps (lstL l want stock) = costTo l (lstL l want stock) ps l.length := by
    unfold costL
    rw [hP, decide_eq_true (by rw [lstL_len]), lstL_range hA]
    rfl
  rw [hcost]
  refine ⟨h0, ?_⟩
  generalize hMM : unitM T (unitsN l ps l.length) = M at hs hM
  have hle : sumM (fun j => (M j : Int)) (fun j => want.getD j 0) l.length + sumM (fun j => (M j : Int)) (fun j => upS l (lstL l want stock) j l.length) l.length ≤ sumM (fun j => (M j : Int)) (fun j => madeI (l.getD j nil0).yield ((lstL l want stock).getD j 0)) l.length := by
    rw [← sumM_add (h := fun j => want.getD j 0 + upS l (lstL l want stock) j l.length) (fun j => rfl)]
    refine sumM_le _ (fun j hj => ⟨Int.natCast_nonneg _, ?_⟩)
    have := (least_left hA hj).1
    unfold leftAt at this
    rw [hz] at this
    omega
  rw [sumM_one (i := q) (v := (n : Int)) (fun j hj => hw0 j hj) hw _ hq] at hle
  generalize costTo l (lstL l want stock) ps l.length = P at *
  have h1 : (M q : Int) * n ≤ T * P := by omega
  have h2 : (M q : Int) * n * c.2 ≤ T * P * c.2 := Int.mul_le_mul_of_nonneg_right h1 (Int.natCast_nonneg _)
  have h3 : (M q : Int) * c.2 = c.1 * T := by rw [← Int.natCast_mul, hM, Int.natCast_mul]
  have h4 : (T : Int) * ((n * c.1 : Nat) : Int) ≤ T * (P * c.2) := by
    calc (T : Int) * ((n * c.1 : Nat) : Int) = n * (c.1 * T) := by rw [Int.natCast_mul]; ac_rfl
      _ = n * ((M q : Int) * c.2) := by rw [h3]
      _ = (M q : Int) * n * c.2 := by ac_rfl
      _ ≤ T * P * c.2 := h2
      _ = T * (P * c.2) := by rw [Int.mul_assoc]
  exact Int.le_of_mul_le_mul_left h4 (by omega)
end Go.Proofs.YtjegebnnlomcpaaDoor
