/- No order ends earlier than the best one: the mathematics of FlowEnd, FlowBest and FlowLeast.
   Conditions: in each statement. -/
import Derived.Test.YteloapholoechabFlow3
import Derived.Test.YteloapholoechabOrderMath
namespace Go.Proofs.Yteloapholoechab

abbrev dishAt (l : List Dish) (o : Int) : Dish := l.getD o.toNat ⟨0, 0⟩
/-- When the second cook is done, from a time of the first and of the second. -/
def endF : List Dish → Int → Int → Int
  | [], _, c => c
  | x :: r, p, c => endF r (p + x.prep) ((if c < p + x.prep then p + x.prep else c) + x.cook)
def InB (l : List Dish) : Prop := ∀ x ∈ l, 0 ≤ x.prep ∧ x.prep ≤ 30 ∧ 0 ≤ x.cook ∧ x.cook ≤ 30
theorem endF_mono : ∀ (l : List Dish) (p c d : Int), c ≤ d → endF l p c ≤ endF l p d
  | [], _, _, _, h => h
  | x :: r, p, c, d, h => by
    rw [endF, endF]
    refine endF_mono r _ _ _ ?_
    split <;> split <;> omega
/-- The key of the best order. -/
def flowKey (x : Dish) : Int := if x.prep < x.cook then x.prep else 100 - x.cook
theorem endF_swap {x y : Dish} (hx : 0 ≤ x.prep ∧ x.prep ≤ 30 ∧ 0 ≤ x.cook ∧ x.cook ≤ 30) (hy : 0 ≤ y.prep ∧ y.prep ≤ 30 ∧ 0 ≤ y.cook ∧ y.cook ≤ 30) (hk : flowKey x ≤ flowKey y) (r : List Dish) (p c : Int) : endF (x :: y :: r) p c ≤ endF (y :: x :: r) p c := by
  simp only [endF]
  rw [show p + y.prep + x.prep = p + x.prep + y.prep from by omega]
  refine endF_mono r _ _ _ ?_
  unfold flowKey at hk
  obtain ⟨a1, a2⟩ := x
  obtain ⟨b1, b2⟩ := y
  simp only at *
  split at hk <;> split at hk <;> (repeat' split) <;> omega
theorem endF_front {key : Int → Dish} : ∀ (a b : List Int) (v : Int), (∀ i ∈ a, flowKey (key i) ≤ flowKey (key v)) → InB ((a ++ v :: b).map key) → ∀ p c, endF ((a ++ v :: b).map key) p c ≤ endF ((v :: (a ++ b)).map key) p c
  | [], b, v, _, _, p, c => Int.le_refl _
  | x :: a, b, v, h, hB, p, c => by
    have hB2 : InB ((a ++ v :: b).map key) := fun y hy => hB y (by simp only [List.cons_append, List.map_cons, List.mem_cons]; exact .inr hy)
    have h1 := endF_front a b v (fun i hi => h i (by simp [hi])) hB2
    have h2 : endF ((x :: a ++ v :: b).map key) p c ≤ endF (key x :: ((v :: (a ++ b)).map key)) p c := by
      simp only [List.cons_append, List.map_cons, endF]
      have := h1 (p + (key x).prep) ((if c < p + (key x).prep then p + (key x).prep else c) + (key x).cook)
      simpa only [List.map_cons, endF] using this
    refine Int.le_trans h2 ?_
    simp only [List.map_cons, List.cons_append]
    exact endF_swap (hB _ (by simp)) (hB _ (by simp)) (h x (by simp)) _ p c
theorem endF_least {key : Int → Dish} : ∀ (m d : List Int), m.Perm d → d.Pairwise (fun i j => flowKey (key i) ≤ flowKey (key j)) → InB (d.map key) → ∀ p c, endF (d.map key) p c ≤ endF (m.map key) p c
  | [], d, h, _, _, p, c => by
    have := h.nil_eq
    subst this
    exact Int.le_refl _
  | v :: r, d, h, hs, hB, p, c => by
    have hv : v ∈ d := h.subset (by simp)
    obtain ⟨a, b, rfl⟩ := List.append_of_mem hv
    have hp : r.Perm (a ++ b) := (List.perm_cons v).1 (h.trans List.perm_middle)
    have hsub : (a ++ b).Sublist (a ++ v :: b) := List.Sublist.append_left (List.sublist_cons_self v b) a
    have ih := endF_least r (a ++ b) hp (hs.sublist hsub) (fun y hy => hB y (by
      obtain ⟨i, hi, rfl⟩ := List.mem_map.1 hy
      exact List.mem_map.2 ⟨i, hsub.subset hi, rfl⟩))
    have hav : ∀ x ∈ a, flowKey (key x) ≤ flowKey (key v) := fun x hx => (List.pairwise_append.1 hs).2.2 x hx v (by simp)
    refine Int.le_trans (endF_front a b v hav hB p c) ?_
    simp only [List.map_cons, endF]
    exact ih _ _
def sumP (l : List Dish) : Int := sumL (l.map (·.prep))
def sumC (l : List Dish) : Int := sumL (l.map (·.cook))
theorem sumP_cons (x : Dish) (l : List Dish) : sumP (x :: l) = x.prep + sumP l := rfl
theorem sumC_cons (x : Dish) (l : List Dish) : sumC (x :: l) = x.cook + sumC l := rfl
theorem endF_shift : ∀ (l : List Dish) (p c : Int), InB l → p ≤ c → endF l p c = if c + sumC l < p + endF l 0 0 then p + endF l 0 0 else c + sumC l
  | [], p, c, _, h => by simp [endF, sumC, sumL]; omega
  | x :: r, p, c, hB, h => by
    have hx := hB x (by simp)
    have hr : InB r := fun y hy => hB y (by simp [hy])
    have e1 := endF_shift r (p + x.prep) ((if c < p + x.prep then p + x.prep else c) + x.cook) hr (by split <;> omega)
    have e2 := endF_shift r (0 + x.prep) ((if 0 < 0 + x.prep then 0 + x.prep else 0) + x.cook) hr (by split <;> omega)
    rw [endF, endF, e1, e2, sumC_cons]
    generalize endF r 0 0 = E
    generalize sumC r = B
    (repeat' split) <;> omega
theorem endF_snoc : ∀ (l : List Dish) (x : Dish) (p c : Int), endF (l ++ [x]) p c = (if endF l p c < p + sumP l + x.prep then p + sumP l + x.prep else endF l p c) + x.cook
  | [], x, p, c => by simp [endF, sumP, sumL]
  | y :: r, x, p, c => by
    rw [List.cons_append, endF, endF_snoc r, endF, sumP_cons]
    rw [show p + y.prep + sumP r + x.prep = p + (y.prep + sumP r) + x.prep from by omega]
def swD (x : Dish) : Dish := ⟨x.cook, x.prep⟩
theorem sumP_app (a b : List Dish) : sumP (a ++ b) = sumP a + sumP b := by
  induction a with
  | nil => simp [sumP, sumL]
  | cons x r ih => rw [List.cons_append, sumP_cons, sumP_cons, ih]; omega
theorem sumP_rev : ∀ l : List Dish, sumP ((l.map swD).reverse) = sumC l
  | [] => rfl
  | x :: r => by
    rw [List.map_cons, List.reverse_cons, sumP_app, sumP_rev r, sumC_cons]
    simp [sumP, sumL, swD]
    omega
theorem endF_rev : ∀ l : List Dish, InB l → endF ((l.map swD).reverse) 0 0 = endF l 0 0
  | [], _ => rfl
  | x :: r, hB => by
    have hx := hB x (by simp)
    have hr : InB r := fun y hy => hB y (by simp [hy])
    have e := endF_shift r (0 + x.prep) ((if 0 < 0 + x.prep then 0 + x.prep else 0) + x.cook) hr (by split <;> omega)
    rw [List.map_cons, List.reverse_cons, endF_snoc, endF_rev r hr, sumP_rev, endF, e]
    simp only [swD]
    generalize endF r 0 0 = E
    generalize sumC r = B
    (repeat' split) <;> omega
theorem endF_facts : ∀ (l : List Dish) (p c : Int), InB l → p ≤ c → c + sumC l ≤ endF l p c ∧ p + sumP l ≤ endF l p c ∧ (∀ x ∈ l, p + x.prep + x.cook ≤ endF l p c) ∧ endF l p c ≤ c + sumP l + sumC l
  | [], p, c, _, h => by refine ⟨?_, ?_, fun x hx => by simp at hx, ?_⟩ <;> simp [endF, sumC, sumP, sumL] <;> omega
  | x :: r, p, c, hB, h => by
    have hx := hB x (by simp)
    have hr : InB r := fun y hy => hB y (by simp [hy])
    obtain ⟨i1, i2, i3, i4⟩ := endF_facts r (p + x.prep) ((if c < p + x.prep then p + x.prep else c) + x.cook) hr (by split <;> omega)
    have hC : 0 ≤ sumC r := by
      clear i1 i2 i3 i4 hB
      induction r with
      | nil => simp [sumC, sumL]
      | cons y s ih => have a := ih (fun z hz => hr z (by simp [hz])); have b := hr y (by simp); rw [sumC_cons]; omega
    have hlt := (show (if c < p + x.prep then p + x.prep else c) ≤ c + x.prep ∧ c ≤ (if c < p + x.prep then p + x.prep else c) ∧ p + x.prep ≤ (if c < p + x.prep then p + x.prep else c) from by split <;> omega)
    rw [endF, sumC_cons, sumP_cons]
    generalize (if c < p + x.prep then p + x.prep else c) = u at *
    refine ⟨by omega, by omega, fun y hy => ?_, by omega⟩
    rcases List.mem_cons.1 hy with rfl | hy
    · omega
    · have := i3 y hy
      omega
theorem dishAt_ok {l : List Dish} (h : dishesOk l = true) (o : Int) : 0 ≤ (dishAt l o).prep ∧ (dishAt l o).prep ≤ 30 ∧ 0 ≤ (dishAt l o).cook ∧ (dishAt l o).cook ≤ 30 := by
  unfold dishAt
  rw [List.getD_eq_getElem?_getD]
  cases e : l[o.toNat]? with
  | none => simp
  | some x => exact dishesOk_at h (List.mem_of_getElem? e)
theorem map_ok {l : List Dish} (h : dishesOk l = true) (ord : List Int) : InB (ord.map (dishAt l)) := fun x hx => by
  obtain ⟨o, _, rfl⟩ := List.mem_map.1 hx
  exact dishAt_ok h o
theorem maxFrom_is {e : List Int} {s : Int} (h0 : 0 ≤ s) (h1 : ∀ x ∈ e, x ≤ s) (h2 : s = 0 ∨ s ∈ e) : maxFrom 0 e = s := by
  have a := maxFrom_le e 0
  rcases maxFrom_mem e 0 with h | h
  · rcases h2 with h2 | h2
    · omega
    · have := a.2 s h2; omega
  · have := h1 _ h
    rcases h2 with h2 | h2
    · omega
    · have := a.2 s h2; omega
theorem flowGo_max {l : List Dish} (hD : dishesOk l = true) : ∀ (ord : List Int) (f s : Int) (e : List Int), 0 ≤ f → 0 ≤ s → (∀ o ∈ ord, 0 ≤ o ∧ o < e.length) → (∀ x ∈ e, x ≤ s) → (s = 0 ∨ s ∈ e) → maxFrom 0 (flowGo l f s ord e) = endF (ord.map (dishAt l)) f s
  | [], f, s, e, _, h0, _, h1, h2 => by rw [flowGo]; exact maxFrom_is h0 h1 h2
  | o :: r, f, s, e, hf, h0, ho, h1, h2 => by
    have hd := dishAt_ok hD o
    have hl := ho o (by simp)
    rw [flowGo, List.map_cons, endF]
    have hs : s ≤ (if s < f + (dishAt l o).prep then f + (dishAt l o).prep else s) + (dishAt l o).cook := by split <;> omega
    refine flowGo_max hD r _ _ _ (by unfold dishAt at hd; omega) (by unfold dishAt at hs; omega) (fun x hx => by rw [List.length_set]; exact ho x (by simp [hx])) (fun x hx => ?_) (.inr ?_)
    · rcases List.mem_or_eq_of_mem_set hx with hx | hx
      · have := h1 x hx
        unfold dishAt at hs
        omega
      · rw [hx]; exact Int.le_refl _
    · exact List.mem_of_getElem? (List.getElem?_set_self (by omega))
theorem flowEnd_is {l : List Dish} {ord : List Int} (h : flowFit l ord = true) : flowEndL l ord = endF (ord.map (dishAt l)) 0 0 := by
  have h' := h
  unfold flowFit at h'
  rw [Bool.and_eq_true] at h'
  have ho := orderOkL_iff.1 h'.2
  unfold flowEndL flowEndsL
  rw [if_pos h, if_pos h]
  refine flowGo_max h'.1 _ _ _ _ (Int.le_refl _) (Int.le_refl _) (fun o hx => by rw [tab_len]; exact ho.2.1 o hx) (fun x hx => ?_) (.inl rfl)
  obtain ⟨_, _, rfl⟩ := List.mem_map.1 hx
  exact Int.le_refl _
/-- The best order: by its key, those that are equal in this in their order. -/
def flowBestL (l : List Dish) : List Int := if dishesOk l = true then sortBy (fun i => flowKey (dishAt l i)) l.length else []
theorem flowBest_fit {l : List Dish} (h : dishesOk l = true) : flowFit l (flowBestL l) = true := by
  unfold flowFit flowBestL
  rw [h, if_pos rfl, Bool.true_and]
  refine orderOkL_iff.2 ⟨by rw [sortBy_len], fun x hx => sortBy_mem.1 hx, ?_⟩
  exact (sortBy_sorted _ _).imp (fun hab e => by subst e; exact lexLt_irrefl hab)
theorem fit_parts {l : List Dish} {ord : List Int} (h : flowFit l ord = true) : dishesOk l = true ∧ orderOkL ord (l.length : Int) = true := by
  unfold flowFit at h
  rwa [Bool.and_eq_true] at h
theorem orders_perm {a b : List Int} {n : Nat} (ha : orderOkL a (n : Int) = true) (hb : orderOkL b (n : Int) = true) : a.Perm b := by
  obtain ⟨a1, a2, a3⟩ := orderOkL_iff.1 ha
  obtain ⟨b1, b2, b3⟩ := orderOkL_iff.1 hb
  exact (List.perm_ext_iff_of_nodup a3 b3).2 fun x => ⟨fun hx => order_mem (by omega) b2 b3 (a2 x hx).1 (a2 x hx).2, fun hx => order_mem (by omega) a2 a3 (b2 x hx).1 (b2 x hx).2⟩
/-- No order ends earlier. -/
theorem flow_least {l : List Dish} {ord : List Int} (h : flowFit l ord = true) : 0 ≤ flowEndL l (flowBestL l) ∧ flowEndL l (flowBestL l) ≤ flowEndL l ord := by
  obtain ⟨hD, hO⟩ := fit_parts h
  have hf := flowBest_fit hD
  rw [flowEnd_is hf, flowEnd_is h]
  refine ⟨?_, endF_least ord (flowBestL l) (orders_perm hO (fit_parts hf).2) ?_ (map_ok hD _) 0 0⟩
  · obtain ⟨i1, -, -, -⟩ := endF_facts _ 0 0 (map_ok hD (flowBestL l)) (Int.le_refl _)
    have : ∀ m : List Dish, InB m → 0 ≤ sumC m := by
      intro m
      induction m with
      | nil => intro _; simp [sumC, sumL]
      | cons y s ih => intro hB; have a := ih (fun z hz => hB z (by simp [hz])); have b := hB y (by simp); rw [sumC_cons]; omega
    have := this _ (map_ok hD (flowBestL l))
    omega
  · unfold flowBestL
    rw [if_pos hD]
    refine (sortBy_sorted _ _).imp (fun {a b} hab => ?_)
    unfold lexLt at hab
    simp only at hab
    omega
/-- In the other direction it ends at the same time. -/
theorem flow_turned {l : List Dish} {ord : List Int} (h : flowFit l ord = true) : flowEndL (l.map swD) ord.reverse = flowEndL l ord := by
  obtain ⟨hD, hO⟩ := fit_parts h
  have hD2 : dishesOk (l.map swD) = true := by
    unfold dishesOk at hD ⊢
    simp only [Bool.and_eq_true, decide_eq_true_eq, List.all_eq_true, List.length_map] at hD ⊢
    refine ⟨hD.1, fun x hx => ?_⟩
    obtain ⟨y, hy, rfl⟩ := List.mem_map.1 hx
    have := hD.2 y hy
    unfold dishOk swD at *
    simp only [Bool.and_eq_true] at this ⊢
    exact ⟨this.2, this.1⟩
  have h2 : flowFit (l.map swD) ord.reverse = true := by
    unfold flowFit
    rw [hD2, List.length_map, orderOkL_rev, hO]
    rfl
  rw [flowEnd_is h, flowEnd_is h2, ← endF_rev _ (map_ok hD ord)]
  congr 1
  rw [List.map_reverse, List.map_map]
  congr 1
  refine List.map_congr_left (fun o _ => ?_)
  unfold dishAt
  simp only [List.getD_eq_getElem?_getD, List.getElem?_map, Function.comp]
  cases l[o.toNat]? <;> rfl
theorem order_sum {l : List Dish} {ord : List Int} (h : flowFit l ord = true) (f : Dish → Int) : sumL ((ord.map (dishAt l)).map f) = sumL (l.map f) := by
  obtain ⟨hD, hO⟩ := fit_parts h
  have hI : orderOkL (tab l.length (fun i => (i : Int))) (l.length : Int) = true := orderOkL_iff.2 ⟨by rw [tab_len], fun x hx => by
    obtain ⟨i, hi, rfl⟩ := List.mem_map.1 hx
    have := List.mem_range.1 hi
    omega, by
    unfold tab
    refine (List.pairwise_map.2 ?_)
    exact (List.nodup_range (n := l.length)).imp (fun hab e => hab (by omega))⟩
  have hp := orders_perm hO hI
  rw [sumL_perm (((hp.map (dishAt l)).map f))]
  congr 1
  apply List.ext_getElem?
  intro i
  unfold tab dishAt
  simp only [List.getElem?_map, List.map_map]
  by_cases hi : i < l.length
  · rw [List.getElem?_range hi]
    simp [hi]
  · rw [List.getElem?_eq_none (by simpa using hi), List.getElem?_eq_none (by simpa using hi)]
    rfl
/-- What FnFlowLeast says. -/
theorem flowLeast_said {l : List Dish} (h : dishesOk l = true) : 0 ≤ flowEndL l (flowBestL l) ∧ sumL (l.map (·.prep)) ≤ flowEndL l (flowBestL l) ∧ sumL (l.map (·.cook)) ≤ flowEndL l (flowBestL l) ∧ flowEndL l (flowBestL l) ≤ sumL (l.map (·.prep)) + sumL (l.map (·.cook)) ∧ ∀ x ∈ l, x.prep + x.cook ≤ flowEndL l (flowBestL l) := by
  have hf := flowBest_fit h
  have h0 := (flow_least hf).1
  have e1 := order_sum hf (·.prep)
  have e2 := order_sum hf (·.cook)
  obtain ⟨i1, i2, i3, i4⟩ := endF_facts _ 0 0 (map_ok h (flowBestL l)) (Int.le_refl _)
  rw [← flowEnd_is hf] at i1 i2 i3 i4
  unfold sumC sumP at *
  rw [e2] at i1 i4
  rw [e1] at i2 i4
  refine ⟨h0, by omega, by omega, by omega, fun x hx => ?_⟩
  obtain ⟨k, hk⟩ := List.getElem?_of_mem hx
  obtain ⟨o1, o2, o3⟩ := orderOkL_iff.1 (fit_parts hf).2
  have hkl := (List.getElem?_eq_some_iff.1 hk).1
  have hm := order_mem (x := (k : Int)) (n := l.length) (by omega) o2 o3 (by omega) (by omega)
  have := i3 x (List.mem_map.2 ⟨(k : Int), hm, by unfold dishAt; rw [List.getD_eq_getElem?_getD, Int.toNat_natCast, hk]; rfl⟩)
  omega
theorem swapAt_perm {xs : List Int} {j : Nat} (hj : j + 1 < xs.length) : (swapAt xs j).Perm xs := by
  obtain ⟨y, hy⟩ : ∃ y, xs[j] = y := ⟨_, rfl⟩
  obtain ⟨x, hx⟩ : ∃ x, xs[j + 1] = x := ⟨_, rfl⟩
  have e : xs = xs.take j ++ y :: x :: xs.drop (j + 2) := by
    have h1 := List.take_append_drop j xs
    rw [List.drop_eq_getElem_cons (show j < xs.length by omega), List.drop_eq_getElem_cons hj, hy, hx] at h1
    exact h1.symm
  have hl : (xs.take j).length = j := by rw [List.length_take]; omega
  have e2 : swapAt xs j = xs.take j ++ x :: y :: xs.drop (j + 2) := by
    unfold swapAt
    have g0 : xs.getD j 0 = y := by rw [List.getD_eq_getElem?_getD, List.getElem?_eq_getElem (show j < xs.length by omega), hy]; rfl
    have g1 : xs.getD (j + 1) 0 = x := by rw [List.getD_eq_getElem?_getD, List.getElem?_eq_getElem hj, hx]; rfl
    rw [g0, g1]
    have h3 : (xs.take j ++ y :: x :: xs.drop (j + 2)).set (j + 1) y = xs.take j ++ y :: y :: xs.drop (j + 2) := by
      rw [List.set_append_right _ _ (by omega), hl, Nat.add_sub_cancel_left]; rfl
    have h4 : (xs.take j ++ y :: y :: xs.drop (j + 2)).set j x = xs.take j ++ x :: y :: xs.drop (j + 2) := by
      rw [List.set_append_right _ _ (by omega), hl, Nat.sub_self]; rfl
    rw [← h4, ← h3, ← e]
  rw [e2]
  conv => rhs; rw [e]
  exact List.Perm.append_left _ (List.Perm.swap y x _)
theorem flow_swapped {l : List Dish} (h : dishesOk l = true) {j : Nat} (hj : j + 1 < (flowBestL l).length) : flowFit l (swapAt (flowBestL l) j) = true ∧ flowEndL l (flowBestL l) ≤ flowEndL l (swapAt (flowBestL l) j) := by
  have hf := flowBest_fit h
  have hp := swapAt_perm hj
  obtain ⟨o1, o2, o3⟩ := orderOkL_iff.1 (fit_parts hf).2
  have hf2 : flowFit l (swapAt (flowBestL l) j) = true := by
    unfold flowFit
    rw [h, Bool.true_and]
    exact orderOkL_iff.2 ⟨by rw [hp.length_eq]; exact o1, fun x hx => o2 x (hp.subset hx), hp.nodup_iff.2 o3⟩
  exact ⟨hf2, (flow_least hf2).2⟩
end Go.Proofs.Yteloapholoechab
