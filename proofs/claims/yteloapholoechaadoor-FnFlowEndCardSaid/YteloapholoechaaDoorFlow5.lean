/- No order ends earlier than the best one: the mathematics of FlowEnd, FlowBest and FlowLeast.
   Conditions: in each statement.
   FlowBest: how the best order is made of two sorted lists, and the contract of the reference model.
   Conditions: the bounds in each statement.
   FlowBest of the program: two lists of indices, each sorted by its key, one behind the other.
   Conditions: the bounds in each statement. -/
import Derived.Test.YteloapholoechaaDoorFlow3
import Derived.Test.YteloapholoechaaDoorOrdIff
import Derived.Test.YteloapholoechaaDoorSortK2
import Derived.Test.YteloapholoechaaDoorPush
import Derived.Test.YteloapholoechaaDoorSpreadN
namespace Go.Proofs.YteloapholoechaaDoor

abbrev dishAt (l : List Dish) (o : Int) : Dish := l.getD o.toNat ⟨0, 0⟩
/-- When the second cook is done, from a time of the first and of the second. -/
def endF : List Dish → Int → Int → Int
  | [], _, c => c
  | x :: r, p, c => endF r (p + x.prep) ((if c < p + x.prep then p + x.prep else c) + x.cook)
def InB (l : List Dish) : Prop := ∀ x ∈ l, 0 ≤ x.prep ∧ x.prep ≤ 30 ∧ 0 ≤ x.cook ∧ x.cook ≤ 30
theorem endF_mono : ∀ (l : List Dish) (p c d : Int), c ≤ d → endF l p c ≤ endF l p d
  | [], _, _, _, h => h
  | x :: r, p, c, d, h => by
    rw [endF, endF]
    refine endF_mono r _ _ _ ?_
    split <;> split <;> omega
/-- The key of the best order. -/
def flowKey (x : Dish) : Int := if x.prep < x.cook then x.prep else 100 - x.cook
theorem endF_swap {x y : Dish} (hx : 0 ≤ x.prep ∧ x.prep ≤ 30 ∧ 0 ≤ x.cook ∧ x.cook ≤ 30) (hy : 0 ≤ y.prep ∧ y.prep ≤ 30 ∧ 0 ≤ y.cook ∧ y.cook ≤ 30) (hk : flowKey x ≤ flowKey y) (r : List Dish) (p c : Int) : endF (x :: y :: r) p c ≤ endF (y :: x :: r) p c := by
  simp only [endF]
  rw [show p + y.prep + x.prep = p + x.prep + y.prep from by omega]
  refine endF_mono r _ _ _ ?_
  unfold flowKey at hk
  obtain ⟨a1, a2⟩ := x
  obtain ⟨b1, b2⟩ := y
  simp only at *
  split at hk <;> split at hk <;> (repeat' split) <;> omega
theorem endF_front {key : Int → Dish} : ∀ (a b : List Int) (v : Int), (∀ i ∈ a, flowKey (key i) ≤ flowKey (key v)) → InB ((a ++ v :: b).map key) → ∀ p c, endF ((a ++ v :: b).map key) p c ≤ endF ((v :: (a ++ b)).map key) p c
  | [], b, v, _, _, p, c => Int.le_refl _
  | x :: a, b, v, h, hB, p, c => by
    have hB2 : InB ((a ++ v :: b).map key) := fun y hy => hB y (by simp only [List.cons_append, List.map_cons, List.mem_cons]; exact .inr hy)
    have h1 := endF_front a b v (fun i hi => h i (by simp [hi])) hB2
    have h2 : endF ((x :: a ++ v :: b).map key) p c ≤ endF (key x :: ((v :: (a ++ b)).map key)) p c := by
      simp only [List.cons_append, List.map_cons, endF]
      have := h1 (p + (key x).prep) ((if c < p + (key x).prep then p + (key x).prep else c) + (key x).cook)
      simpa only [List.map_cons, endF] using this
    refine Int.le_trans h2 ?_
    simp only [List.map_cons, List.cons_append]
    exact endF_swap (hB _ (by simp)) (hB _ (by simp)) (h x (by simp)) _ p c
theorem endF_least {key : Int → Dish} : ∀ (m d : List Int), m.Perm d → d.Pairwise (fun i j => flowKey (key i) ≤ flowKey (key j)) → InB (d.map key) → ∀ p c, endF (d.map key) p c ≤ endF (m.map key) p c
  | [], d, h, _, _, p, c => by
    have := h.nil_eq
    subst this
    exact Int.le_refl _
  | v :: r, d, h, hs, hB, p, c => by
    have hv : v ∈ d := h.subset (by simp)
    obtain ⟨a, b, rfl⟩ := List.append_of_mem hv
    have hp : r.Perm (a ++ b) := (List.perm_cons v).1 (h.trans List.perm_middle)
    have hsub : (a ++ b).Sublist (a ++ v :: b) := List.Sublist.append_left (List.sublist_cons_self v b) a
    have ih := endF_least r (a ++ b) hp (hs.sublist hsub) (fun y hy => hB y (by
      obtain ⟨i, hi, rfl⟩ := List.mem_map.1 hy
      exact List.mem_map.2 ⟨i, hsub.subset hi, rfl⟩))
    have hav : ∀ x ∈ a, flowKey (key x) ≤ flowKey (key v) := fun x hx => (List.pairwise_append.1 hs).2.2 x hx v (by simp)
    refine Int.le_trans (endF_front a b v hav hB p c) ?_
    simp only [List.map_cons, endF]
    exact ih _ _
def sumP (l : List Dish) : Int := sumL (l.map (·.prep))
def sumC (l : List Dish) : Int := sumL (l.map (·.cook))
theorem sumP_cons (x : Dish) (l : List Dish) : sumP (x :: l) = x.prep + sumP l := rfl
theorem sumC_cons (x : Dish) (l : List Dish) : sumC (x :: l) = x.cook + sumC l := rfl
theorem endF_shift : ∀ (l : List Dish) (p c : Int), InB l → p ≤ c → endF l p c = if c + sumC l < p + endF l 0 0 then p + endF l 0 0 else c + sumC l
  | [], p, c, _, h => by simp [endF, sumC, sumL]; omega
  | x :: r, p, c, hB, h => by
    have hx := hB x (by simp)
    have hr : InB r := fun y hy => hB y (by simp [hy])
    have e1 := endF_shift r (p + x.prep) ((if c < p + x.prep then p + x.prep else c) + x.cook) hr (by split <;> omega)
    have e2 := endF_shift r (0 + x.prep) ((if 0 < 0 + x.prep then 0 + x.prep else 0) + x.cook) hr (by split <;> omega)
    rw [endF, endF, e1, e2, sumC_cons]
    generalize endF r 0 0 = E
    generalize sumC r = B
    (repeat' split) <;> omega
theorem endF_snoc : ∀ (l : List Dish) (x : Dish) (p c : Int), endF (l ++ [x]) p c = (if endF l p c < p + sumP l + x.prep then p + sumP l + x.prep else endF l p c) + x.cook
  | [], x, p, c => by simp [endF, sumP, sumL]
  | y :: r, x, p, c => by
    rw [List.cons_append, endF, endF_snoc r, endF, sumP_cons]
    rw [show p + y.prep + sumP r + x.prep = p + (y.prep + sumP r) + x.prep from by omega]
def swD (x : Dish) : Dish := ⟨x.cook, x.prep⟩
theorem sumP_app (a b : List Dish) : sumP (a ++ b) = sumP a + sumP b := by
  induction a with
  | nil => simp [sumP, sumL]
  | cons x r ih => rw [List.cons_append, sumP_cons, sumP_cons, ih]; omega
theorem sumP_rev : ∀ l : List Dish, sumP ((l.map swD).reverse) = sumC l
  | [] => rfl
  | x :: r => by
    rw [List.map_cons, List.reverse_cons, sumP_app, sumP_rev r, sumC_cons]
    simp [sumP, sumL, swD]
    omega
theorem endF_rev : ∀ l : List Dish, InB l → endF ((l.map swD).reverse) 0 0 = endF l 0 0
  | [], _ => rfl
  | x :: r, hB => by
    have hx := hB x (by simp)
    have hr : InB r := fun y hy => hB y (by simp [hy])
    have e := endF_shift r (0 + x.prep) ((if 0 < 0 + x.prep then 0 + x.prep else 0) + x.cook) hr (by split <;> omega)
    rw [List.map_cons, List.reverse_cons, endF_snoc, endF_rev r hr, sumP_rev, endF, e]
    simp only [swD]
    generalize endF r 0 0 = E
    generalize sumC r = B
    (repeat' split) <;> omega
theorem endF_facts : ∀ (l : List Dish) (p c : Int), InB l → p ≤ c → c + sumC l ≤ endF l p c ∧ p + sumP l ≤ endF l p c ∧ (∀ x ∈ l, p + x.prep + x.cook ≤ endF l p c) ∧ endF l p c ≤ c + sumP l + sumC l
  | [], p, c, _, h => by refine ⟨?_, ?_, fun x hx => by simp at hx, ?_⟩ <;> simp [endF, sumC, sumP, sumL] <;> omega
  | x :: r, p, c, hB, h => by
    have hx := hB x (by simp)
    have hr : InB r := fun y hy => hB y (by simp [hy])
    obtain ⟨i1, i2, i3, i4⟩ := endF_facts r (p + x.prep) ((if c < p + x.prep then p + x.prep else c) + x.cook) hr (by split <;> omega)
    have hC : 0 ≤ sumC r := by
      clear i1 i2 i3 i4 hB
      induction r with
      | nil => simp [sumC, sumL]
      | cons y s ih => have a := ih (fun z hz => hr z (by simp [hz])); have b := hr y (by simp); rw [sumC_cons]; omega
    have hlt := (show (if c < p + x.prep then p + x.prep else c) ≤ c + x.prep ∧ c ≤ (if c < p + x.prep then p + x.prep else c) ∧ p + x.prep ≤ (if c < p + x.prep then p + x.prep else c) from by split <;> omega)
    rw [endF, sumC_cons, sumP_cons]
    generalize (if c < p + x.prep then p + x.prep else c) = u at *
    refine ⟨by omega, by omega, fun y hy => ?_, by omega⟩
    rcases List.mem_cons.1 hy with rfl | hy
    · omega
    · have := i3 y hy
      omega
theorem dishAt_ok {l : List Dish} (h : dishesOk l = true) (o : Int) : 0 ≤ (dishAt l o).prep ∧ (dishAt l o).prep ≤ 30 ∧ 0 ≤ (dishAt l o).cook ∧ (dishAt l o).cook ≤ 30 := by
  unfold dishAt
  rw [List.getD_eq_getElem?_getD]
  cases e : l[o.toNat]? with
  | none => simp
  | some x => exact dishesOk_at h (List.mem_of_getElem? e)
theorem map_ok {l : List Dish} (h : dishesOk l = true) (ord : List Int) : InB (ord.map (dishAt l)) := fun x hx => by
  obtain ⟨o, _, rfl⟩ := List.mem_map.1 hx
  exact dishAt_ok h o
theorem maxFrom_is {e : List Int} {s : Int} (h0 : 0 ≤ s) (h1 : ∀ x ∈ e, x ≤ s) (h2 : s = 0 ∨ s ∈ e) : maxFrom 0 e = s := by
  have a := maxFrom_le e 0
  rcases maxFrom_mem e 0 with h | h
  · rcases h2 with h2 | h2
    · omega
    · have := a.2 s h2; omega
  · have := h1 _ h
    rcases h2 with h2 | h2
    · omega
    · have := a.2 s h2; omega
theorem flowGo_max {l : List Dish} (hD : dishesOk l = true) : ∀ (ord : List Int) (f s : Int) (e : List Int), 0 ≤ f → 0 ≤ s → (∀ o ∈ ord, 0 ≤ o ∧ o < e.length) → (∀ x ∈ e, x ≤ s) → (s = 0 ∨ s ∈ e) → maxFrom 0 (flowGo l f s ord e) = endF (ord.map (dishAt l)) f s
  | [], f, s, e, _, h0, _, h1, h2 => by rw [flowGo]; exact maxFrom_is h0 h1 h2
  | o :: r, f, s, e, hf, h0, ho, h1, h2 => by
    have hd := dishAt_ok hD o
    have hl := ho o (by simp)
    rw [flowGo, List.map_cons, endF]
    have hs : s ≤ (if s < f + (dishAt l o).prep then f + (dishAt l o).prep else s) + (dishAt l o).cook := by split <;> omega
    refine flowGo_max hD r _ _ _ (by unfold dishAt at hd; omega) (by unfold dishAt at hs; omega) (fun x hx => by rw [List.length_set]; exact ho x (by simp [hx])) (fun x hx => ?_) (.inr ?_)
    · rcases List.mem_or_eq_of_mem_set hx with hx | hx
      · have := h1 x hx
        unfold dishAt at hs
        omega
      · rw [hx]; exact Int.le_refl _
    · exact List.mem_of_getElem? (List.getElem?_set_self (by omega))
theorem flowEnd_is {l : List Dish} {ord : List Int} (h : flowFit l ord = true) : flowEndL l ord = endF (ord.map (dishAt l)) 0 0 := by
  have h' := h
  unfold flowFit at h'
  rw [Bool.and_eq_true] at h'
  have ho := orderOkL_iff.1 h'.2
  unfold flowEndL flowEndsL
  rw [if_pos h, if_pos h]
  refine flowGo_max h'.1 _ _ _ _ (Int.le_refl _) (Int.le_refl _) (fun o hx => by rw [tab_len]; exact ho.2.1 o hx) (fun x hx => ?_) (.inl rfl)
  obtain ⟨_, _, rfl⟩ := List.mem_map.1 hx
  exact Int.le_refl _
/-- The best order: by its key, those that are equal in this in their order. -/
def flowBestL (l : List Dish) : List Int := if dishesOk l = true then sortBy (fun i => flowKey (dishAt l i)) l.length else []
theorem flowBest_fit {l : List Dish} (h : dishesOk l = true) : flowFit l (flowBestL l) = true := by
  unfold flowFit flowBestL
  rw [h, if_pos rfl, Bool.true_and]
  refine orderOkL_iff.2 ⟨by rw [sortBy_len], fun x hx => sortBy_mem.1 hx, ?_⟩
  exact (sortBy_sorted _ _).imp (fun hab e => by subst e; exact lexLt_irrefl hab)
theorem fit_parts {l : List Dish} {ord : List Int} (h : flowFit l ord = true) : dishesOk l = true ∧ orderOkL ord (l.length : Int) = true := by
  unfold flowFit at h
  rwa [Bool.and_eq_true] at h
theorem orders_perm {a b : List Int} {n : Nat} (ha : orderOkL a (n : Int) = true) (hb : orderOkL b (n : Int) = true) : a.Perm b := by
  obtain ⟨a1, a2, a3⟩ := orderOkL_iff.1 ha
  obtain ⟨b1, b2, b3⟩ := orderOkL_iff.1 hb
  exact (List.perm_ext_iff_of_nodup a3 b3).2 fun x => ⟨fun hx => order_mem (by omega) b2 b3 (a2 x hx).1 (a2 x hx).2, fun hx => order_mem (by omega) a2 a3 (b2 x hx).1 (b2 x hx).2⟩
/-- No order ends earlier. -/
theorem flow_least {l : List Dish} {ord : List Int} (h : flowFit l ord = true) : 0 ≤ flowEndL l (flowBestL l) ∧ flowEndL l (flowBestL l) ≤ flowEndL l ord := by
  obtain ⟨hD, hO⟩ := fit_parts h
  have hf := flowBest_fit hD
  rw [flowEnd_is hf, flowEnd_is h]
  refine ⟨?_, endF_least ord (flowBestL l) (orders_perm hO (fit_parts hf).2) ?_ (map_ok hD _) 0 0⟩
  · obtain ⟨i1, -, -, -⟩ := endF_facts _ 0 0 (map_ok hD (flowBestL l)) (Int.le_refl _)
    have : ∀ m : List Dish, InB m → 0 ≤ sumC m := by
      intro m
      induction m with
      | nil => intro _; simp [sumC, sumL]
      | cons y s ih => intro hB; have a := ih (fun z hz => hB z (by simp [hz])); have b := hB y (by simp); rw [sumC_cons]; omega
    have := this _ (map_ok hD (flowBestL l))
    omega
  · unfold flowBestL
    rw [if_pos hD]
    refine (sortBy_sorted _ _).imp (fun {a b} hab => ?_)
    unfold lexLt at hab
    simp only at hab
    omega
/-- In the other direction it ends at the same time. -/
theorem flow_turned {l : List Dish} {ord : List Int} (h : flowFit l ord = true) : flowEndL (l.map swD) ord.reverse = flowEndL l ord := by
  obtain ⟨hD, hO⟩ := fit_parts h
  have hD2 : dishesOk (l.map swD) = true := by
    unfold dishesOk at hD ⊢
    simp only [Bool.and_eq_true, decide_eq_true_eq, List.all_eq_true, List.length_map] at hD ⊢
    refine ⟨hD.1, fun x hx => ?_⟩
    obtain ⟨y, hy, rfl⟩ := List.mem_map.1 hx
    have := hD.2 y hy
    unfold dishOk swD at *
    simp only [Bool.and_eq_true] at this ⊢
    exact ⟨this.2, this.1⟩
  have h2 : flowFit (l.map swD) ord.reverse = true := by
    unfold flowFit
    rw [hD2, List.length_map, orderOkL_rev, hO]
    rfl
  rw [flowEnd_is h, flowEnd_is h2, ← endF_rev _ (map_ok hD ord)]
  congr 1
  rw [List.map_reverse, List.map_map]
  congr 1
  refine List.map_congr_left (fun o _ => ?_)
  unfold dishAt
  simp only [List.getD_eq_getElem?_getD, List.getElem?_map, Function.comp]
  cases l[o.toNat]? <;> rfl
theorem order_sum {l : List Dish} {ord : List Int} (h : flowFit l ord = true) (f : Dish → Int) : sumL ((ord.map (dishAt l)).map f) = sumL (l.map f) := by
  obtain ⟨hD, hO⟩ := fit_parts h
  have hI : orderOkL (tab l.length (fun i => (i : Int))) (l.length : Int) = true := orderOkL_iff.2 ⟨by rw [tab_len], fun x hx => by
    obtain ⟨i, hi, rfl⟩ := List.mem_map.1 hx
    have := List.mem_range.1 hi
    omega, by
    unfold tab
    refine (List.pairwise_map.2 ?_)
    exact (List.nodup_range (n := l.length)).imp (fun hab e => hab (by omega))⟩
  have hp := orders_perm hO hI
  rw [sumL_perm (((hp.map (dishAt l)).map f))]
  congr 1
  apply List.ext_getElem?
  intro i
  unfold tab dishAt
  simp only [List.getElem?_map, List.map_map]
  by_cases hi : i < l.length
  · rw [List.getElem?_range hi]
    simp [hi]
  · rw [List.getElem?_eq_none (by simpa using hi), List.getElem?_eq_none (by simpa using hi)]
    rfl
/-- What FnFlowLeast says. -/
theorem flowLeast_said {l : List Dish} (h : dishesOk l = true) : 0 ≤ flowEndL l (flowBestL l) ∧ sumL (l.map (·.prep)) ≤ flowEndL l (flowBestL l) ∧ sumL (l.map (·.cook)) ≤ flowEndL l (flowBestL l) ∧ flowEndL l (flowBestL l) ≤ sumL (l.map (·.prep)) + sumL (l.map (·.cook)) ∧ ∀ x ∈ l, x.prep + x.cook ≤ flowEndL l (flowBestL l) := by
  have hf := flowBest_fit h
  have h0 := (flow_least hf).1
  have e1 := order_sum hf (·.prep)
  have e2 := order_sum hf (·.cook)
  obtain ⟨i1, i2, i3, i4⟩ := endF_facts _ 0 0 (map_ok h (flowBestL l)) (Int.le_refl _)
  rw [← flowEnd_is hf] at i1 i2 i3 i4
  unfold sumC sumP at *
  rw [e2] at i1 i4
  rw [e1] at i2 i4
  refine ⟨h0, by omega, by omega, by omega, fun x hx => ?_⟩
  obtain ⟨k, hk⟩ := List.getElem?_of_mem hx
  obtain ⟨o1, o2, o3⟩ := orderOkL_iff.1 (fit_parts hf).2
  have hkl := (List.getElem?_eq_some_iff.1 hk).1
  have hm := order_mem (x := (k : Int)) (n := l.length) (by omega) o2 o3 (by omega) (by omega)
  have := i3 x (List.mem_map.2 ⟨(k : Int), hm, by unfold dishAt; rw [List.getD_eq_getElem?_getD, Int.toNat_natCast, hk]; rfl⟩)
  omega
theorem swapAt_perm {xs : List Int} {j : Nat} (hj : j + 1 < xs.length) : (swapAt xs j).Perm xs := by
  obtain ⟨y, hy⟩ : ∃ y, xs[j] = y := ⟨_, rfl⟩
  obtain ⟨x, hx⟩ : ∃ x, xs[j + 1] = x := ⟨_, rfl⟩
  have e : xs = xs.take j ++ y :: x :: xs.drop (j + 2) := by
    have h1 := List.take_append_drop j xs
    rw [List.drop_eq_getElem_cons (show j < xs.length by omega), List.drop_eq_getElem_cons hj, hy, hx] at h1
    exact h1.symm
  have hl : (xs.take j).length = j := by rw [List.length_take]; omega
  have e2 : swapAt xs j = xs.take j ++ x :: y :: xs.drop (j + 2) := by
    unfold swapAt
    have g0 : xs.getD j 0 = y := by rw [List.getD_eq_getElem?_getD, List.getElem?_eq_getElem (show j < xs.length by omega), hy]; rfl
    have g1 : xs.getD (j + 1) 0 = x := by rw [List.getD_eq_getElem?_getD, List.getElem?_eq_getElem hj, hx]; rfl
    rw [g0, g1]
    have h3 : (xs.take j ++ y :: x :: xs.drop (j + 2)).set (j + 1) y = xs.take j ++ y :: y :: xs.drop (j + 2) := by
      rw [List.set_append_right _ _ (by omega), hl, Nat.add_sub_cancel_left]; rfl
    have h4 : (xs.take j ++ y :: y :: xs.drop (j + 2)).set j x = xs.take j ++ x :: y :: xs.drop (j + 2) := by
      rw [List.set_append_right _ _ (by omega), hl, Nat.sub_self]; rfl
    rw [← h4, ← h3, ← e]
  rw [e2]
  conv => rhs; rw [e]
  exact List.Perm.append_left _ (List.Perm.swap y x _)
theorem flow_swapped {l : List Dish} (h : dishesOk l = true) {j : Nat} (hj : j + 1 < (flowBestL l).length) : flowFit l (swapAt (flowBestL l) j) = true ∧ flowEndL l (flowBestL l) ≤ flowEndL l (swapAt (flowBestL l) j) := by
  have hf := flowBest_fit h
  have hp := swapAt_perm hj
  obtain ⟨o1, o2, o3⟩ := orderOkL_iff.1 (fit_parts hf).2
  have hf2 : flowFit l (swapAt (flowBestL l) j) = true := by
    unfold flowFit
    rw [h, Bool.true_and]
    exact orderOkL_iff.2 ⟨by rw [hp.length_eq]; exact o1, fun x hx => o2 x (hp.subset hx), hp.nodup_iff.2 o3⟩
  exact ⟨hf2, (flow_least hf2).2⟩
end Go.Proofs.YteloapholoechaaDoor

namespace Go.Proofs.YteloapholoechaaDoor
open Go.RowKit Go.ChangeShapes Go.WideShapes Go.ChangeAt

theorem revSort_asc (key : Int → Int) {xs : List Int} (h : xs.Pairwise (· < ·)) : ∀ k, k ≤ xs.length → (revSort key (xs.take k)).Pairwise (fun a b => lexLt key b a) ∧ ∀ x, x ∈ revSort key (xs.take k) ↔ x ∈ xs.take k
  | 0, _ => ⟨by simp [revSort], fun x => by simp [revSort]⟩
  | k + 1, hk => by
    have ih := revSort_asc key h k (by omega)
    have e : xs.take (k + 1) = xs.take k ++ [xs[k]] := by rw [List.take_succ_eq_append_getElem (by omega)]
    have e2 : revSort key (xs.take (k + 1)) = insRev key xs[k] (revSort key (xs.take k)) := by
      rw [e]
      unfold revSort
      rw [List.foldl_append]
      rfl
    rw [e2]
    refine ⟨insRev_sorted ih.1 (fun y hy => ?_), fun x => ?_⟩
    · have hy2 := (ih.2 y).1 hy
      have h2 := h
      rw [← List.take_append_drop k xs, List.drop_eq_getElem_cons (show k < xs.length by omega), List.pairwise_append] at h2
      exact h2.2.2 y hy2 _ (List.mem_cons_self ..)
    · rw [insRev_mem, ih.2 x, e, List.mem_append]
      simp only [List.mem_cons, List.not_mem_nil, or_false]
      exact ⟨fun h => h.symm, fun h => h.symm⟩
theorem isort_asc (key : Int → Int) {xs : List Int} (h : xs.Pairwise (· < ·)) : (isortTo key xs xs.length).Pairwise (lexLt key) ∧ ∀ x, x ∈ isortTo key xs xs.length ↔ x ∈ xs := by
  have := revSort_asc key h xs.length (Nat.le_refl _)
  rw [List.take_length] at this
  rw [isortTo_done, List.pairwise_reverse]
  exact ⟨this.1, fun x => by rw [List.mem_reverse]; exact this.2 x⟩

/-- The first indices of dishes that a test takes. -/
def pickD (P : Dish → Bool) (l : List Dish) : Nat → List Int
  | 0 => []
  | k + 1 => pickD P l k ++ (if P (l.getD k ⟨0, 0⟩) = true then [(k : Int)] else [])
theorem pickD_mem {P : Dish → Bool} {l : List Dish} : ∀ {k : Nat} {x : Int}, x ∈ pickD P l k ↔ 0 ≤ x ∧ x < k ∧ P (l.getD x.toNat ⟨0, 0⟩) = true
  | 0, x => by simp [pickD]; omega
  | k + 1, x => by
    rw [pickD, List.mem_append, pickD_mem (k := k)]
    by_cases e : x = k
    · subst e
      by_cases hp : P (l.getD k ⟨0, 0⟩) = true
      · rw [if_pos hp]
        exact ⟨fun _ => ⟨by omega, by omega, by simpa using hp⟩, fun _ => .inr (by simp)⟩
      · rw [if_neg hp]
        constructor
        · rintro (h | h)
          · exact absurd h.2.1 (by omega)
          · simp at h
        · rintro ⟨_, _, h⟩
          exact absurd (by simpa using h) hp
    · constructor
      · rintro (h | h)
        · exact ⟨h.1, by omega, h.2.2⟩
        · split at h
          · simp at h; exact absurd h e
          · simp at h
      · rintro ⟨h1, h2, h3⟩
        exact .inl ⟨h1, by omega, h3⟩
theorem pickD_asc {P : Dish → Bool} {l : List Dish} : ∀ (k : Nat), (pickD P l k).Pairwise (· < ·)
  | 0 => by simp [pickD]
  | k + 1 => by
    rw [pickD, List.pairwise_append]
    refine ⟨pickD_asc k, by split <;> simp, fun a ha b hb => ?_⟩
    have := (pickD_mem.1 ha).2.1
    split at hb
    · simp at hb; omega
    · simp at hb
theorem pickD_len {P : Dish → Bool} {l : List Dish} : ∀ (k : Nat), (pickD P l k).length ≤ k
  | 0 => by simp [pickD]
  | k + 1 => by
    rw [pickD, List.length_append]
    have := pickD_len (P := P) (l := l) k
    split <;> simp <;> omega
def shortP (x : Dish) : Bool := decide (x.prep < x.cook)
def otherP (x : Dish) : Bool := !(decide (x.prep < x.cook))
def prepKey (l : List Dish) (i : Int) : Int := (dishAt l i).prep
def cookKey (l : List Dish) (i : Int) : Int := -(dishAt l i).cook
theorem flowBest_is {l : List Dish} (h : dishesOk l = true) : isortTo (prepKey l) (pickD shortP l l.length) (pickD shortP l l.length).length ++ isortTo (cookKey l) (pickD otherP l l.length) (pickD otherP l l.length).length = flowBestL l := by
  have a := isort_asc (prepKey l) (pickD_asc (P := shortP) (l := l) l.length)
  have b := isort_asc (cookKey l) (pickD_asc (P := otherP) (l := l) l.length)
  unfold flowBestL
  rw [if_pos h]
  refine sortBy_unique ?_ (fun x => ?_)
  · have sk : ∀ x, x ∈ isortTo (prepKey l) (pickD shortP l l.length) (pickD shortP l l.length).length → flowKey (dishAt l x) = (dishAt l x).prep ∧ (dishAt l x).prep < (dishAt l x).cook := fun x hx => by
      have h1 := (pickD_mem.1 ((a.2 x).1 hx)).2.2
      unfold shortP at h1
      simp only [decide_eq_true_eq] at h1
      have h1 : (dishAt l x).prep < (dishAt l x).cook := h1
      exact ⟨by unfold flowKey; rw [if_pos h1], h1⟩
    have ok : ∀ x, x ∈ isortTo (cookKey l) (pickD otherP l l.length) (pickD otherP l l.length).length → flowKey (dishAt l x) = 100 - (dishAt l x).cook := fun x hx => by
      have h1 := (pickD_mem.1 ((b.2 x).1 hx)).2.2
      unfold otherP at h1
      simp only [Bool.not_eq_true', decide_eq_false_iff_not] at h1
      have h1 : ¬ (dishAt l x).prep < (dishAt l x).cook := h1
      unfold flowKey; rw [if_neg h1]
    rw [List.pairwise_append]
    refine ⟨a.1.imp_of_mem (fun {x y} hx hy hxy => ?_), b.1.imp_of_mem (fun {x y} hx hy hxy => ?_), fun x hx y hy => ?_⟩
    · have h1 := (sk x hx).1
      have h2 := (sk y hy).1
      unfold lexLt prepKey at hxy
      show flowKey (dishAt l x) < flowKey (dishAt l y) ∨ (flowKey (dishAt l x) = flowKey (dishAt l y) ∧ x < y)
      omega
    · have h1 := ok x hx
      have h2 := ok y hy
      unfold lexLt cookKey at hxy
      show flowKey (dishAt l x) < flowKey (dishAt l y) ∨ (flowKey (dishAt l x) = flowKey (dishAt l y) ∧ x < y)
      omega
    · have h1 := sk x hx
      have h2 := ok y hy
      have r1 := dishAt_ok h x
      have r2 := dishAt_ok h y
      show flowKey (dishAt l x) < flowKey (dishAt l y) ∨ (flowKey (dishAt l x) = flowKey (dishAt l y) ∧ x < y)
      omega
  · rw [List.mem_append, a.2 x, b.2 x, pickD_mem, pickD_mem]
    unfold shortP otherP
    cases decide ((l.getD x.toNat ⟨0, 0⟩).prep < (l.getD x.toNat ⟨0, 0⟩).cook) <;> simp
theorem flowBestL_len (l : List Dish) : (flowBestL l).length ≤ l.length := by
  unfold flowBestL
  split
  · rw [sortBy_len]; exact Nat.le_refl _
  · simp

/-- What the reference model's two loops know: all with a lesser key, and the first ones with this key. -/
structure FInv (l : List Dish) (B : Int) (k : Nat) (out : List Int) : Prop where
  sorted : out.Pairwise (lexLt (fun i => flowKey (dishAt l i)))
  mem : ∀ x, x ∈ out ↔ (0 ≤ x ∧ x < l.length ∧ (flowKey (dishAt l x) < B ∨ (flowKey (dishAt l x) = B ∧ x < k)))
theorem key_range {l : List Dish} (h : dishesOk l = true) (x : Int) : 0 ≤ flowKey (dishAt l x) ∧ flowKey (dishAt l x) ≤ 100 ∧ (flowKey (dishAt l x) < 30 ∨ 70 ≤ flowKey (dishAt l x)) := by
  have := dishAt_ok h x
  unfold flowKey
  split <;> omega
theorem FInv.start {l : List Dish} (h : dishesOk l = true) : FInv l 0 0 [] := ⟨by simp, fun x => by
  have := key_range h x
  constructor
  · intro hx; simp at hx
  · rintro ⟨h0, h1, h2⟩; omega⟩
theorem FInv.skip {l : List Dish} {B : Int} {k : Nat} {out : List Int} (h : FInv l B k out) (hk : flowKey (dishAt l k) ≠ B) : FInv l B (k + 1) out := ⟨h.sorted, fun x => by
  rw [h.mem x]
  constructor
  · rintro ⟨h0, h1, h2⟩
    exact ⟨h0, h1, by omega⟩
  · rintro ⟨h0, h1, h2⟩
    refine ⟨h0, h1, ?_⟩
    rcases h2 with h2 | ⟨h2, h3⟩
    · exact .inl h2
    · refine .inr ⟨h2, ?_⟩
      have : x ≠ k := fun e => hk (by rw [← h2, e])
      omega⟩
theorem FInv.push {l : List Dish} {B : Int} {k : Nat} {out : List Int} (h : FInv l B k out) (hk : flowKey (dishAt l k) = B) (hkl : k < l.length) : FInv l B (k + 1) (out ++ [(k : Int)]) := ⟨by
  rw [List.pairwise_append]
  refine ⟨h.sorted, by simp, fun a ha b hb => ?_⟩
  simp only [List.mem_cons, List.not_mem_nil, or_false] at hb
  subst hb
  have := (h.mem a).1 ha
  show flowKey (dishAt l a) < flowKey (dishAt l k) ∨ (flowKey (dishAt l a) = flowKey (dishAt l k) ∧ a < k)
  rw [hk]
  omega, fun x => by
  rw [List.mem_append, h.mem x]
  simp only [List.mem_cons, List.not_mem_nil, or_false]
  constructor
  · rintro (⟨h0, h1, h2⟩ | rfl)
    · exact ⟨h0, h1, by omega⟩
    · exact ⟨by omega, by omega, .inr ⟨hk, by omega⟩⟩
  · rintro ⟨h0, h1, h2⟩
    by_cases e : x = k
    · exact .inr e
    · refine .inl ⟨h0, h1, ?_⟩
      omega⟩
theorem FInv.up {l : List Dish} {B : Int} {out : List Int} (h : FInv l B l.length out) : FInv l (B + 1) 0 out := ⟨h.sorted, fun x => by
  rw [h.mem x]
  constructor
  · rintro ⟨h0, h1, h2⟩
    exact ⟨h0, h1, by omega⟩
  · rintro ⟨h0, h1, h2⟩
    exact ⟨h0, h1, by omega⟩⟩
theorem FInv.jump {l : List Dish} (hD : dishesOk l = true) {out : List Int} (h : FInv l 31 0 out) : FInv l 70 0 out := ⟨h.sorted, fun x => by
  have := key_range hD x
  rw [h.mem x]
  constructor
  · rintro ⟨h0, h1, h2⟩
    exact ⟨h0, h1, by omega⟩
  · rintro ⟨h0, h1, h2⟩
    exact ⟨h0, h1, by omega⟩⟩
theorem FInv.done {l : List Dish} (hD : dishesOk l = true) {out : List Int} (h : FInv l 101 0 out) : out = flowBestL l := by
  unfold flowBestL
  rw [if_pos hD]
  exact sortBy_unique h.sorted (fun x => by
    have := key_range hD x
    rw [h.mem x]
    constructor
    · rintro ⟨h0, h1, _⟩
      exact ⟨h0, h1⟩
    · rintro ⟨h0, h1⟩
      exact ⟨h0, h1, .inl (by omega)⟩)
theorem FInv.len {l : List Dish} {B : Int} {k : Nat} {out : List Int} (h : FInv l B k out) : out.length ≤ l.length := by
  have hn : out.Nodup := h.sorted.imp (fun hab e => by subst e; exact lexLt_irrefl hab)
  exact nodup_len l.length out hn (fun x hx => by have := (h.mem x).1 hx; omega)

set_option maxRecDepth 100000 in
set_option maxHeartbeats 4000000 in
theorem specFlowBest_any (A : Option Addr) (c : Nat) (l : List Dish) (w : World) (hA : DishesAt w A l) (hl : l.length ≤ 1048576) :
    Calls Tryd.prog 22 #[.slice A l.length c] w fun e w' => ∃ v, e = .returned v ∧ IntSl w' w.heap.size v (flowBestL l) ∧ Below w.heap.size w w' := by
  have hO0 : IntSl (w.alloc (.cells #[] 3)) w.heap.size (.slice (some ⟨w.heap.size, 0, none⟩) 0 0) [] := World.ownsRow_lit w #[] 0 (Nat.le_refl _) (by unfold maxLen; omega) rfl
  have HO0 := hide hO0
  have hba : Below w.heap.size w (w.alloc (.cells #[] 3)) := by go_grown
  have hA0 := hA.below hba
  clear hO0
  cases hI : dishesOk l with
  | false =>
    have HI := hide hI
    have H3 : Hid (flowBestL l = []) := hide (by unfold flowBestL; rw [hI]; rfl)
    clear hI
    go_enter Tryd.func22, Tryd.ntmps22
    go_wp2_with fail
    go_loopw [3, 4] (fun ov sv wr => ov = .slice (some ⟨w.heap.size, 0, none⟩) 0 0 ∧ sv = .int .i64 0 ∧ wr = w.alloc (.cells #[] 3)) (fun _ _ _ => 0)
    case atStart => exact ⟨rfl, rfl, rfl⟩
    case round =>
      obtain ⟨rfl, rfl, rfl⟩ := hrel
      go_wp2_with fail
      refine (specDishesValid_any _ _ _ _ hA0 hl).mono ?_
      rintro e w1 ⟨rfl, hB1⟩
      have HP1 := hide (IntSl.below HO0.out hB1)
      have hb1 := next hba hB1
      have HA1 := hide (hA.below hb1)
      rw [HI.out]
      clear hA0 hba
      go_wp2_with fail
      go_loopw [3, 6] (fun ov sv wr => ov = .slice (some ⟨w.heap.size, 0, none⟩) 0 0 ∧ sv = .int .i64 30 ∧ wr = w1) (fun _ _ _ => 0)
      case atStart => exact ⟨rfl, rfl, rfl⟩
      case round =>
        obtain ⟨rfl, rfl, rfl⟩ := hrel
        go_wp2_with fail
        refine (specDishesValid_any _ _ _ _ HA1.out hl).mono ?_
        rintro e w2 ⟨rfl, hB2⟩
        have HP2 := hide (IntSl.below HP1.out hB2)
        have hb2 := next hb1 hB2
        rw [HI.out]
        go_wp2_with fail
        refine bodyPost_ret (results_tmp rfl _ _ _) rfl ⟨_, rfl, by rw [H3.out]; exact HP2.out, hb2⟩
  | true =>
    have HI := hide hI
    have h6 := dishesOk_len hI
    have HST := hide (FInv.start hI)
    clear hI
    go_enter Tryd.func22, Tryd.ntmps22
    go_wp2_with fail
    go_loopw [3, 4] (fun ov sv wr => ∃ (s : Int) (out : List Int), 0 ≤ s ∧ s ≤ 31 ∧ sv = .int .i64 s ∧ Hid (FInv l s 0 out) ∧ IntSl wr w.heap.size ov out ∧ Below w.heap.size w wr) (fun _ sv _ => (31 - intOf sv).toNat)
    case atStart => exact ⟨0, [], by omega, by omega, rfl, HST, HO0.out, hba⟩
    case round =>
      clear HO0 hba hA0 HST
      obtain ⟨s, out, hs0, hs1, rfl, HV, hS, hb⟩ := hrel
      have hsz := hb.size
      by_cases hsn : s ≤ 30
      · have hsd : decide (s ≤ 30) = true := decide_eq_true hsn
        go_wp2_with fail
        refine (specDishesValid_any _ _ _ _ (hA.below hb) hl).mono ?_
        rintro e w1 ⟨rfl, hB1⟩
        have HS1 := hide (IntSl.below hS hB1)
        have hb1 := next hb hB1
        rw [HI.out]
        clear hS hb hB1 hsz
        go_wp2_with fail
        go_loopw [3, 5] (fun ov i wr => ∃ (k : Nat) (out : List Int), k ≤ l.length ∧ i = .int .i64 k ∧ Hid (FInv l s k out) ∧ IntSl wr w.heap.size ov out ∧ Below w.heap.size w wr) (fun _ i _ => l.length - (intOf i).toNat)
        case atStart => exact ⟨0, out, Nat.zero_le _, rfl, HV, HS1.out, hb1⟩
        case round =>
          clear HV HS1 hb1
          obtain ⟨k, out, hk, rfl, HV, hS, hb⟩ := hrel
          have hsz := hb.size
          by_cases hlt : k < l.length
          · obtain ⟨b, off, rfl, hbl, hc1, hc2⟩ := (hA.below hb) k l[k] (List.getElem?_eq_getElem hlt)
            have HX : Hid (dishAt l k = l[k]) := hide (by unfold dishAt; simp [hlt])
            have hxr := dishesOk_at HI.out (List.getElem_mem hlt)
            generalize l[k] = x at *
            obtain ⟨xp, xc⟩ := x
            simp only at hc1 hc2 hxr
            have hz : (0 : Int) ≤ k := by omega
            have hz2 : (k : Int) < l.length := by omega
            have hol := HV.out.len
            by_cases hpc : xp < xc
            · have hpd : decide (xp < xc) = true := decide_eq_true hpc
              cases hv : (xp == s) with
              | true =>
                have HV2 := hide (HV.out.push (by rw [HX.out, flowKey, if_pos hpc]; simpa using hv) hlt)
                have HS := hide hS
                have HB := hide hb
                clear hS hb
                go_wp2_with fail
                go_quiet (fail)
                obtain ⟨w2, hw2⟩ : ∃ w2, wr.drewN nq = w2 := ⟨_, rfl⟩
                have hS2 : IntSl w2 w.heap.size u3 out := by rw [← hw2]; exact HS.out
                have hb2 : Below w.heap.size w w2 := by rw [← hw2]; exact below_drewN HB.out _
                rw [hw2]
                have hsz2 := hb2.size
                have HSA := hide (World.ownsRow.alloc hS2 (.cells #[.int .i64 k] 3))
                have HBA := hide (hb2.alloc hsz2 (.cells #[.int .i64 k] 3))
                have HLT := hide (World.ownsRow.lt hS2)
                clear hS2 hw2
                go_wp2_with (at_builtin; refine wpList_push_int rfl _ _ rfl w.heap.size u3 out rfl HSA.out w2.heap.size (k : Int) rfl (heap_alloc_new w2 _) (by omega) (by simp; omega) ?_; intro g5 cap w5 hown hgrow hnew)
                have hb5 : Below w.heap.size w w5 := HBA.out.grown hgrow (by simp; omega) (fun k hk => (HLT.out k hk).1)
                clear hgrow hnew
                go_wp2_with fail
                go_roundw
                case rel => exact ⟨k + 1, out ++ [(k : Int)], hlt, by go_num, HV2, by simpa using hown, hb5⟩
                case measure => simp [intOf]; omega
              | false =>
                have HV2 := hide (HV.out.skip (by rw [HX.out, flowKey, if_pos hpc]; simpa using hv))
                go_wp2_with fail
                go_quiet (fail)
                go_wp2_with fail
                go_roundw
                case rel => exact ⟨k + 1, out, hlt, by go_num, HV2, hS, below_drewN hb _⟩
                case measure => simp [intOf]; omega
            · have hpd : decide (xp < xc) = false := decide_eq_false hpc
              have HV2 := hide (HV.out.skip (by
                rw [HX.out, flowKey, if_neg hpc]
                show 100 - xc ≠ s
                omega))
              go_wp2_with fail
              go_quiet (fail)
              go_wp2_with fail
              go_roundw
              case rel => exact ⟨k + 1, out, hlt, by go_num, HV2, hS, below_drewN hb _⟩
              case measure => simp [intOf]; omega
          · obtain rfl : k = l.length := by omega
            have HV2 := hide (HV.out.up)
            have hw1 : IntKind.i64.wrap (s + 1) = s + 1 := IntWalk.i64_in _ (by omega)
            go_wp2_with fail
            go_roundw
            case rel => exact ⟨s + 1, out, by omega, by omega, rfl, HV2, hS, hb⟩
            case measure => simp [intOf]; omega
      · obtain rfl : s = 31 := by omega
        have HV0 := hide (HV.out.jump HI.out)
        have HS := hide hS
        clear hS HV
        go_wp2_with fail
        go_loopw [3, 6] (fun ov sv wr => ∃ (s : Int) (out : List Int), -1 ≤ s ∧ s ≤ 30 ∧ sv = .int .i64 s ∧ Hid (FInv l (100 - s) 0 out) ∧ IntSl wr w.heap.size ov out ∧ Below w.heap.size w wr) (fun _ sv _ => (intOf sv + 1).toNat)
        case atStart => exact ⟨30, out, by omega, by omega, rfl, HV0, HS.out, hb⟩
        case round =>
          clear HV0 HS hb hsz
          obtain ⟨s, out, hs0, hs1, rfl, HV, hS, hb⟩ := hrel
          have hsz := hb.size
          by_cases hsn : 0 ≤ s
          · have hsd : decide (0 ≤ s) = true := decide_eq_true hsn
            go_wp2_with fail
            refine (specDishesValid_any _ _ _ _ (hA.below hb) hl).mono ?_
            rintro e w1 ⟨rfl, hB1⟩
            have HS1 := hide (IntSl.below hS hB1)
            have hb1 := next hb hB1
            rw [HI.out]
            clear hS hb hB1 hsz
            go_wp2_with fail
            go_loopw [3, 7] (fun ov i wr => ∃ (k : Nat) (out : List Int), k ≤ l.length ∧ i = .int .i64 k ∧ Hid (FInv l (100 - s) k out) ∧ IntSl wr w.heap.size ov out ∧ Below w.heap.size w wr) (fun _ i _ => l.length - (intOf i).toNat)
            case atStart => exact ⟨0, out, Nat.zero_le _, rfl, HV, HS1.out, hb1⟩
            case round =>
              clear HV HS1 hb1
              obtain ⟨k, out, hk, rfl, HV, hS, hb⟩ := hrel
              have hsz := hb.size
              by_cases hlt : k < l.length
              · obtain ⟨b, off, rfl, hbl, hc1, hc2⟩ := (hA.below hb) k l[k] (List.getElem?_eq_getElem hlt)
                have HX : Hid (dishAt l k = l[k]) := hide (by unfold dishAt; simp [hlt])
                have hxr := dishesOk_at HI.out (List.getElem_mem hlt)
                generalize l[k] = x at *
                obtain ⟨xp, xc⟩ := x
                simp only at hc1 hc2 hxr
                have hz : (0 : Int) ≤ k := by omega
                have hz2 : (k : Int) < l.length := by omega
                have hol := HV.out.len
                by_cases hpc : xc ≤ xp
                · have hpd : decide (xc ≤ xp) = true := decide_eq_true hpc
                  have HK : Hid (flowKey (dishAt l k) = 100 - xc) := hide (by
                    rw [HX.out, flowKey, if_neg (by show ¬ xp < xc; omega)])
                  cases hv : (xc == s) with
                  | true =>
                    have HV2 := hide (HV.out.push (by have : xc = s := (by simpa using hv); rw [HK.out, this]) hlt)
                    have HS := hide hS
                    have HB := hide hb
                    clear hS hb
                    go_wp2_with fail
                    go_quiet (fail)
                    obtain ⟨w2, hw2⟩ : ∃ w2, wr.drewN nq = w2 := ⟨_, rfl⟩
                    have hS2 : IntSl w2 w.heap.size u3 out := by rw [← hw2]; exact HS.out
                    have hb2 : Below w.heap.size w w2 := by rw [← hw2]; exact below_drewN HB.out _
                    rw [hw2]
                    have hsz2 := hb2.size
                    have HSA := hide (World.ownsRow.alloc hS2 (.cells #[.int .i64 k] 3))
                    have HBA := hide (hb2.alloc hsz2 (.cells #[.int .i64 k] 3))
                    have HLT := hide (World.ownsRow.lt hS2)
                    clear hS2 hw2
                    go_wp2_with (at_builtin; refine wpList_push_int rfl _ _ rfl w.heap.size u3 out rfl HSA.out w2.heap.size (k : Int) rfl (heap_alloc_new w2 _) (by omega) (by simp; omega) ?_; intro g5 cap w5 hown hgrow hnew)
                    have hb5 : Below w.heap.size w w5 := HBA.out.grown hgrow (by simp; omega) (fun k hk => (HLT.out k hk).1)
                    clear hgrow hnew
                    go_wp2_with fail
                    go_roundw
                    case rel => exact ⟨k + 1, out ++ [(k : Int)], hlt, by go_num, HV2, by simpa using hown, hb5⟩
                    case measure => simp [intOf]; omega
                  | false =>
                    have HV2 := hide (HV.out.skip (by have : ¬ xc = s := (by simpa using hv); rw [HK.out]; omega))
                    go_wp2_with fail
                    go_quiet (fail)
                    go_wp2_with fail
                    go_roundw
                    case rel => exact ⟨k + 1, out, hlt, by go_num, HV2, hS, below_drewN hb _⟩
                    case measure => simp [intOf]; omega
                · have hpd : decide (xc ≤ xp) = false := decide_eq_false hpc
                  have HV2 := hide (HV.out.skip (by
                    rw [HX.out, flowKey, if_pos (by show xp < xc; omega)]
                    show xp ≠ 100 - s
                    omega))
                  go_wp2_with fail
                  go_quiet (fail)
                  go_wp2_with fail
                  go_roundw
                  case rel => exact ⟨k + 1, out, hlt, by go_num, HV2, hS, below_drewN hb _⟩
                  case measure => simp [intOf]; omega
              · obtain rfl : k = l.length := by omega
                have HV2 : Hid (FInv l (100 - (s - 1)) 0 out) := hide (by
                  have := HV.out.up
                  rwa [show 100 - s + 1 = 100 - (s - 1) from by omega] at this)
                have hw1 : IntKind.i64.wrap (s - 1) = s - 1 := IntWalk.i64_in _ (by omega)
                go_wp2_with fail
                go_roundw
                case rel => exact ⟨s - 1, out, by omega, by omega, rfl, HV2, hS, hb⟩
                case measure => simp [intOf]; omega
          · obtain rfl : s = -1 := by omega
            have H4 : Hid (flowBestL l = out) := hide (by
              have := HV.out
              rw [show (100 : Int) - -1 = 101 from rfl] at this
              rw [this.done HI.out])
            go_wp2_with fail
            refine bodyPost_ret (results_tmp rfl _ _ _) rfl ⟨_, rfl, by rw [H4.out]; exact hS, hb⟩
end Go.Proofs.YteloapholoechaaDoor

namespace Go.Proofs.YteloapholoechaaDoor
open Go.RowKit Go.ChangeShapes Go.WideShapes Go.ChangeAt Go.Deep

theorem dishes_grownQ {w W : World} {q : Option Nat} {A : Option Addr} {l : List Dish} (h : DishesAt w A l) (hg : w.grownBy W q) (hne : ∀ a, 0 < l.length → A = some a → some a.block ≠ q) : DishesAt W A l := by
  intro i x hx
  obtain ⟨b, off, rfl, hl, hc1, hc2⟩ := h i x hx
  have hb := hne _ (by have := (List.getElem?_eq_some_iff.1 hx).1; omega) rfl
  exact ⟨b, off, rfl, Nat.lt_of_lt_of_le hl hg.size, hg.cell hc1 hb, hg.cell hc2 hb⟩
theorem dishes_grown {w W : World} {g : Nat} {A : Option Addr} {l : List Dish} (h : DishesAt w A l) (hg : w.grownBy W (some g)) (hne : ∀ a, A = some a → a.block ≠ g) : DishesAt W A l :=
  dishes_grownQ h hg (fun a _ ha e => by injection e with e; exact hne a ha e)
theorem IntSl.capF {w : World} {lo n c g : Nat} {l : List Int} (h : IntSl w lo (.slice (some ⟨g, 0, none⟩) n c) l) : l.length = n ∧ n ≤ c := by
  rcases h.2 with ⟨hv, _⟩ | ⟨g', cap, cur, hv, _, _, h1, h2, _⟩
  · cases hv
  · injection hv with e1 e2 e3
    subst e2 e3
    exact ⟨rfl, h1⟩
theorem IntSl.capG {w : World} {lo n c : Nat} {A : Option Addr} {l : List Int} (h : IntSl w lo (.slice A n c) l) : l.length = n ∧ n ≤ c := by
  rcases h.2 with ⟨hv, hn⟩ | ⟨g', cap, cur, hv, _, _, h1, h2, _⟩
  · injection hv with e1 e2 e3
    subst e2 e3
    exact ⟨by simpa using hn, Nat.le_refl _⟩
  · injection hv with e1 e2 e3
    subst e2 e3
    exact ⟨rfl, h1⟩
theorem heap_two2 (w : World) (A B : Obj) : ((w.alloc A).alloc B).heap[w.heap.size + 1]? = some B := by
  have := heap_alloc_new (w.alloc A) B
  rwa [World.size_alloc] at this

set_option maxHeartbeats 1000000 in
theorem flowKey1_any (w : World) (g bx c n : Nat) (A : Option Addr) (l : List Dish) (hn : l.length = n) (hA : DishesAt w A l) (hne : ∀ a, A = some a → a.block ≠ g) (hbx : w.cell? ⟨bx, 0, none⟩ = some (.slice A n c)) (hbg : bx ≠ g) :
    KeyK w g n 68 #[.pointer (some ⟨bx, 0, none⟩)] (prepKey l) := by
  intro W hg x hx0 hx1
  subst hn
  have hc : W.cell? ⟨bx, 0, none⟩ = some (.slice A l.length c) := hg.cell hbx (by intro e; injection e with e; exact hbg e)
  obtain ⟨q, rfl⟩ : ∃ q : Nat, x = q := ⟨x.toNat, by omega⟩
  have hq : q < l.length := by omega
  obtain ⟨b, off, rfl, hbl, hc1, hc2⟩ := (dishes_grown hA hg hne) q l[q] (List.getElem?_eq_getElem hq)
  have HV : Hid (prepKey l q = l[q].prep) := hide (by simp [prepKey, dishAt, hq])
  generalize l[q] = v at *
  have hz : (0 : Int) ≤ q := by omega
  have hz2 : (q : Int) < l.length := by omega
  clear hg hA hne hbx hbg
  show Calls Tryd.prog 68 #[.int .i64 q, .pointer (some ⟨bx, 0, none⟩)] W _
  go_enter Tryd.func68, Tryd.ntmps68
  go_wp2_with fail
  go_ret
  exact ⟨by rw [HV.out]; rfl, 0, rfl⟩

set_option maxHeartbeats 1000000 in
theorem flowKey2_any (w : World) (g bx c n : Nat) (A : Option Addr) (l : List Dish) (hn : l.length = n) (hA : DishesAt w A l) (hne : ∀ a, A = some a → a.block ≠ g) (hbx : w.cell? ⟨bx, 0, none⟩ = some (.slice A n c)) (hbg : bx ≠ g) (HD : Hid (dishesOk l = true)) :
    KeyK w g n 69 #[.pointer (some ⟨bx, 0, none⟩)] (cookKey l) := by
  intro W hg x hx0 hx1
  subst hn
  have hc : W.cell? ⟨bx, 0, none⟩ = some (.slice A l.length c) := hg.cell hbx (by intro e; injection e with e; exact hbg e)
  obtain ⟨q, rfl⟩ : ∃ q : Nat, x = q := ⟨x.toNat, by omega⟩
  have hq : q < l.length := by omega
  obtain ⟨b, off, rfl, hbl, hc1, hc2⟩ := (dishes_grown hA hg hne) q l[q] (List.getElem?_eq_getElem hq)
  have hr := dishesOk_at HD.out (List.getElem_mem hq)
  have HV : Hid (cookKey l q = -(l[q].cook)) := hide (by simp [cookKey, dishAt, hq])
  generalize l[q] = v at *
  have hw1 : IntKind.i64.wrap (-v.cook) = -v.cook := IntWalk.i64_in _ (by omega)
  have hz : (0 : Int) ≤ q := by omega
  have hz2 : (q : Int) < l.length := by omega
  clear hg hA hne hbx hbg
  show Calls Tryd.prog 69 #[.int .i64 q, .pointer (some ⟨bx, 0, none⟩)] W _
  go_enter Tryd.func69, Tryd.ntmps69
  go_wp2_with fail
  go_ret
  exact ⟨by rw [HV.out]; rfl, 0, rfl⟩

set_option maxHeartbeats 1000000 in
theorem insertionSort_nil (f : Value) (w : World) :
    Calls Tryd.prog 116 #[.slice none 0 0, .int .i64 0, .int .i64 0, f] w fun e w' => e = .returned (.tuple #[]) ∧ w = w' := by
  go_enter Tryd.func116, Tryd.ntmps116
  go_wp2_with fail
  go_loopw [8] (fun iv wr => iv = .int .i64 1 ∧ w = wr) (fun _ _ => 0)
  case atStart => exact ⟨rfl, rfl⟩
  case round =>
    obtain ⟨rfl, rfl⟩ := hrel
    go_wp2_with fail
    go_end0
    exact ⟨rfl, rfl⟩

set_option maxHeartbeats 1000000 in
theorem sortBy_nil (gk : Nat) (kb : Array Value) (w : World) :
    Calls Tryd.prog 67 #[.slice none 0 0, .func (.func gk) #[] kb] w fun e w' => e = .returned (.tuple #[]) ∧ w.alloc (.cells #[.func (.func gk) #[] kb] 71) = w' := by
  have hmf : ∀ (fn : Fn) (first cap : Array Value) (w : World), (Instr.makeFunc fn first cap).run Tryd.prog w = .ok (.func fn first cap) w := fun _ _ _ _ => rfl
  have hst : ∀ (f : Value) (w : World), Calls Tryd.prog 110 #[.slice none 0 0, .int .i64 0, f] w fun e w' => e = .returned (.tuple #[]) ∧ w = w' := by
    intro f w
    go_enter Tryd.func110, Tryd.ntmps110
    go_wp2_with fail
    go_loopw [7, 8] (fun av bv wr => av = .int .i64 0 ∧ bv = .int .i64 20 ∧ w = wr) (fun _ _ _ => 0)
    case atStart => exact ⟨rfl, rfl, rfl⟩
    case round =>
      obtain ⟨rfl, rfl, rfl⟩ := hrel
      go_wp2_with fail
      refine (insertionSort_nil _ _).mono ?_
      rintro e w1 ⟨rfl, rfl⟩
      go_wp2_with fail
      go_loopw [6] (fun av wr => av = .int .i64 20 ∧ w = wr) (fun _ _ => 0)
      case atStart => exact ⟨rfl, rfl⟩
      case round =>
        obtain ⟨rfl, rfl⟩ := hrel
        go_wp2_with fail
        go_end0
        exact ⟨rfl, rfl⟩
  have hss : ∀ (f : Value) (w : World), Calls Tryd.prog 99 #[.slice none 0 0, f] w fun e w' => e = .returned (.tuple #[]) ∧ w = w' := by
    intro f w
    have HST := hide hst
    clear hst
    go_enter Tryd.func99, Tryd.ntmps99
    go_wp2_with fail
    refine (HST.out _ _).mono ?_
    rintro e w1 ⟨rfl, rfl⟩
    go_wp2_with fail
    go_end0
    exact ⟨rfl, rfl⟩
  have HSS := hide hss
  clear hss hst
  go_enter Tryd.func67, Tryd.ntmps67
  go_wp2_with fail
  refine (HSS.out _ _).mono ?_
  rintro e w1 ⟨rfl, rfl⟩
  clear hmf
  go_wp2_with fail
  go_end0
  exact ⟨rfl, rfl⟩

/-- A slice that the call owns, or nil where there is nothing. -/
structure OwnI (w : World) (lo : Nat) (v : Value) (xs : List Int) : Prop where
  own : IntSl w lo v xs
  nil : xs = [] → v = .slice none 0 0
theorem OwnI.below {w w' : World} {lo : Nat} {v : Value} {xs : List Int} (h : OwnI w lo v xs) (hb : Below w.heap.size w w') : OwnI w' lo v xs := ⟨h.own.below hb, h.nil⟩
theorem OwnI.row {w w' : World} {lo : Nat} {v : Value} {xs : List Int} {q : Option Nat} (h : OwnI w lo v xs) (hg : w.grownBy w' q) (hne : v.ownBlock = none ∨ v.ownBlock ≠ q) : OwnI w' lo v xs := ⟨h.own.row hg hne, h.nil⟩

set_option maxHeartbeats 1000000 in
/-- The program's sort of a list that may be nil. -/
theorem sortByV_any (lo m gk : Nat) (v : Value) (xs : List Int) (key : Int → Int) (kb : Array Value) (w : World) (hn : xs.length < 20) (HR : Hid (∀ x ∈ xs, 0 ≤ x ∧ x < m))
    (h : OwnI w lo v xs) (heg : ∀ args w, (callFunc gk args).run Tryd.prog w = .ok (.enter gk args) w) (HK : Hid (∀ g, v.ownBlock = some g → KeyK w g m gk kb key)) :
    Calls Tryd.prog 67 #[v, .func (.func gk) #[] kb] w fun e w' =>
      e = .returned (.tuple #[]) ∧ OwnI w' lo v (isortTo key xs xs.length) ∧ w.grownBy w' v.ownBlock := by
  by_cases hx : xs = []
  · subst hx
    obtain rfl := h.nil rfl
    refine (sortBy_nil gk kb w).mono ?_
    rintro e w' ⟨rfl, rfl⟩
    exact ⟨rfl, ⟨World.ownsRow_nil _ _ _ _, fun _ => rfl⟩, World.grownBy_alloc w _ _⟩
  · have hl : 0 < xs.length := List.length_pos_iff.2 hx
    obtain ⟨g, cap, rfl, -, -⟩ := h.own.own hl
    refine (sortBy_any lo g cap xs.length m gk xs key kb w rfl hn HR h.own heg (hide (HK.out g rfl))).mono ?_
    rintro e w' ⟨rfl, hS, hg⟩
    refine ⟨rfl, ⟨hS, fun e => ?_⟩, hg⟩
    have := congrArg List.length e
    rw [isortTo_len] at this
    simp at this
    exact absurd this hx

theorem pickD_succ (P : Dish → Bool) (l : List Dish) (k : Nat) : pickD P l (k + 1) = pickD P l k ++ (if P (l.getD k ⟨0, 0⟩) = true then [(k : Int)] else []) := rfl

set_option maxRecDepth 100000 in
set_option maxHeartbeats 4000000 in
theorem implFlowBest_any (A : Option Addr) (c : Nat) (l : List Dish) (w : World) (hA : DishesAt w A l) (hl : l.length ≤ 1048576) :
    Calls Tryd.prog 20 #[.slice A l.length c] w fun e w' => ∃ v, e = .returned v ∧ IntSl w' w.heap.size v (flowBestL l) ∧ Below w.heap.size w w' := by
  have hb0 : Below w.heap.size w (w.alloc (.cells #[.slice A l.length c] 23)) := by go_grown
  have hA0 := hA.below hb0
  cases hI : dishesOk l with
  | false =>
    have HI := hide hI
    have H3 : Hid (flowBestL l = []) := hide (by unfold flowBestL; rw [hI]; rfl)
    clear hI
    go_enter Tryd.func20, Tryd.ntmps20
    go_wp2_with fail
    refine (implDishesValid_any _ _ _ _ hA0 hl).mono ?_
    rintro e w1 ⟨rfl, hB1⟩
    have hb1 := next hb0 hB1
    rw [HI.out]
    go_wp2_with fail
    refine bodyPost_ret (results_tmp rfl _ _ _) rfl ⟨.slice none 0 0, rfl, by rw [H3.out]; exact World.ownsRow_nil _ _ _ _, hb1⟩
  | true =>
    have HI := hide hI
    have h6 := dishesOk_len hI
    have HF := hide (flowBest_is hI)
    clear hI
    go_enter Tryd.func20, Tryd.ntmps20
    go_wp2_with fail
    refine (implDishesValid_any _ _ _ _ hA0 hl).mono ?_
    rintro e w1 ⟨rfl, hB1⟩
    have hb1 := next hb0 hB1
    have hbx : w1.cell? ⟨w.heap.size, 0, none⟩ = some (.slice A l.length c) := (hB1.cell (p := ⟨w.heap.size, 0, none⟩) (by simp)).trans (by simp)
    have hsz1 : w.heap.size < w1.heap.size := by have := hB1.size; simp at this; omega
    rw [HI.out]
    clear hA0 hb0 hB1
    go_wp2_with fail
    go_loopw [3, 4, 12] (fun sv ov i wr => ∃ k : Nat, k ≤ l.length ∧ i = .int .i64 k ∧ OwnI wr (w.heap.size + 1) sv (pickD shortP l k) ∧ OwnI wr (w.heap.size + 1) ov (pickD otherP l k) ∧ Hid (∀ q, sv.ownBlock = some q → ov.ownBlock ≠ some q) ∧ wr.cell? ⟨w.heap.size, 0, none⟩ = some (.slice A l.length c) ∧ w.heap.size < wr.heap.size ∧ Below w.heap.size w wr) (fun _ _ i _ => l.length - (intOf i).toNat)
    case atStart => exact ⟨0, Nat.zero_le _, rfl, ⟨World.ownsRow_nil _ _ _ _, fun _ => rfl⟩, ⟨World.ownsRow_nil _ _ _ _, fun _ => rfl⟩, hide (fun q h => by cases h), hbx, hsz1, hb1⟩
    case round =>
      clear hbx hsz1 hb1
      obtain ⟨k, hk, rfl, hS, hO, HNE, hbx, hsz0, hb⟩ := hrel
      have hsz := hb.size
      by_cases hlt : k < l.length
      · obtain ⟨b, off, rfl, hbl, hc1, hc2⟩ := (hA.below hb) k l[k] (List.getElem?_eq_getElem hlt)
        have HX : Hid (l.getD k ⟨0, 0⟩ = l[k]) := hide (by simp [hlt])
        generalize l[k] = x at *
        obtain ⟨xp, xc⟩ := x
        simp only at hc1 hc2
        have hz : (0 : Int) ≤ k := by omega
        have hz2 : (k : Int) < l.length := by omega
        have hsl := pickD_len (P := shortP) (l := l) k
        have hol := pickD_len (P := otherP) (l := l) k
        obtain ⟨xa, hxa⟩ : ∃ xa, pickD shortP l k = xa := ⟨_, rfl⟩
        obtain ⟨xb, hxb⟩ : ∃ xb, pickD otherP l k = xb := ⟨_, rfl⟩
        rw [hxa] at hS hsl
        rw [hxb] at hO hol
        have HSL := hide (World.ownsRow.lt hS.own)
        have HOL := hide (World.ownsRow.lt hO.own)
        have hbw : Below wr.heap.size wr ((wr.alloc (.cells #[.int .i64 xp, .int .i64 xc] 30)).alloc (.cells #[.int .i64 (k : Int)] 3)) := by go_grown
        have hS2 := hS.below hbw
        have hO2 := hO.below hbw
        have hbb := next hb hbw
        have hbx2 : ((wr.alloc (.cells #[.int .i64 xp, .int .i64 xc] 30)).alloc (.cells #[.int .i64 (k : Int)] 3)).cell? ⟨w.heap.size, 0, none⟩ = some (.slice (some ⟨b, off, none⟩) l.length c) := (hbw.cell (p := ⟨w.heap.size, 0, none⟩) hsz0).trans hbx
        have HS := hide hS2
        have HO := hide hO2
        have HBB := hide hbb
        have HBX := hide hbx2
        clear hS hO hS2 hO2 hbw hbb hbx2
        by_cases hpc : xp < xc
        · have HA1 : Hid (pickD shortP l (k + 1) = xa ++ [(k : Int)]) := hide (by rw [pickD_succ, hxa, HX.out, if_pos (by unfold shortP; exact decide_eq_true hpc)])
          have HA2 : Hid (pickD otherP l (k + 1) = xb) := hide (by rw [pickD_succ, hxb, HX.out, if_neg (by unfold otherP; rw [decide_eq_true hpc]; simp), List.append_nil])
          clear hxa hxb
          go_wp2_with (at_builtin; refine wpList_push_int rfl _ _ rfl (w.heap.size + 1) u3 xa rfl HS.out.own (wr.heap.size + 1) (k : Int) rfl (heap_two2 wr _ _) (by omega) (by simp; omega) ?_; intro g5 cap w5 hown hgrow hnew; have HOWN := hide hown; have HGROW := hide hgrow; have HNEW := hide hnew; clear hown hgrow hnew)
          have hne1 : u4.ownBlock = none ∨ u4.ownBlock ≠ u3.ownBlock := by
            cases e : u3.ownBlock with
            | none => cases e2 : u4.ownBlock <;> simp
            | some q => exact .inr (HNE.out q e)
          have HO5 := hide (OwnI.row HO.out HGROW.out hne1)
          have hb5 : Below w.heap.size w w5 := HBB.out.grown HGROW.out (by simp; omega) (fun k hk => by have := (HSL.out k hk).1; omega)
          have hbx5 : w5.cell? ⟨w.heap.size, 0, none⟩ = some (.slice (some ⟨b, off, none⟩) l.length c) := HGROW.out.cell HBX.out (by
            intro e
            have := (HSL.out _ e.symm).1
            simp at this
            omega)
          have hsz5 : w.heap.size < w5.heap.size := Nat.lt_of_lt_of_le hsz0 (Nat.le_trans (by simp; omega) HGROW.out.size)
          have HNE5 : Hid (∀ q, (Value.slice (some ⟨g5, 0, none⟩) (xa.length + 1) cap).ownBlock = some q → u4.ownBlock ≠ some q) := hide (fun q hq e => by
            have hq : some g5 = some q := hq
            injection hq with hq
            subst hq
            rcases HNEW.out with h | h
            · exact HNE.out _ h e
            · have := (HOL.out _ e).2
              simp at h
              omega)
          go_wp2_with fail
          go_roundw
          case rel => exact ⟨k + 1, hlt, by go_num, by rw [HA1.out]; exact ⟨HOWN.out, fun e => by simp at e⟩, by rw [HA2.out]; exact HO5.out, HNE5, hbx5, hsz5, hb5⟩
          case measure => simp [intOf]; omega
        · have HA1 : Hid (pickD shortP l (k + 1) = xa) := hide (by rw [pickD_succ, hxa, HX.out, if_neg (by unfold shortP; rw [decide_eq_false hpc]; simp), List.append_nil])
          have HA2 : Hid (pickD otherP l (k + 1) = xb ++ [(k : Int)]) := hide (by rw [pickD_succ, hxb, HX.out, if_pos (by unfold otherP; rw [decide_eq_false hpc]; rfl)])
          clear hxa hxb
          go_wp2_with (at_builtin; refine wpList_push_int rfl _ _ rfl (w.heap.size + 1) u4 xb rfl HO.out.own (wr.heap.size + 1) (k : Int) rfl (heap_two2 wr _ _) (by omega) (by simp; omega) ?_; intro g5 cap w5 hown hgrow hnew; have HOWN := hide hown; have HGROW := hide hgrow; have HNEW := hide hnew; clear hown hgrow hnew)
          have hne1 : u3.ownBlock = none ∨ u3.ownBlock ≠ u4.ownBlock := by
            cases e : u3.ownBlock with
            | none => exact .inl rfl
            | some q => exact .inr (fun h => HNE.out q e h.symm)
          have HS5 := hide (OwnI.row HS.out HGROW.out hne1)
          have hb5 : Below w.heap.size w w5 := HBB.out.grown HGROW.out (by simp; omega) (fun k hk => by have := (HOL.out k hk).1; omega)
          have hbx5 : w5.cell? ⟨w.heap.size, 0, none⟩ = some (.slice (some ⟨b, off, none⟩) l.length c) := HGROW.out.cell HBX.out (by
            intro e
            have := (HOL.out _ e.symm).1
            simp at this
            omega)
          have hsz5 : w.heap.size < w5.heap.size := Nat.lt_of_lt_of_le hsz0 (Nat.le_trans (by simp; omega) HGROW.out.size)
          have HNE5 : Hid (∀ q, u3.ownBlock = some q → (Value.slice (some ⟨g5, 0, none⟩) (xb.length + 1) cap).ownBlock ≠ some q) := hide (fun q hq e => by
            have e : some g5 = some q := e
            injection e with e
            subst e
            rcases HNEW.out with h | h
            · exact HNE.out _ hq h
            · have := (HSL.out _ hq).2
              simp at h
              omega)
          go_wp2_with fail
          go_roundw
          case rel => exact ⟨k + 1, hlt, by go_num, by rw [HA1.out]; exact HS5.out, by rw [HA2.out]; exact ⟨HOWN.out, fun e => by simp at e⟩, HNE5, hbx5, hsz5, hb5⟩
          case measure => simp [intOf]; omega
      · obtain rfl : k = l.length := by omega
        have hz2 : ¬ ((l.length : Int) < l.length) := by omega
        have hsl := pickD_len (P := shortP) (l := l) l.length
        have hol := pickD_len (P := otherP) (l := l) l.length
        have HRS : Hid (∀ x ∈ pickD shortP l l.length, 0 ≤ x ∧ x < (l.length : Int)) := hide (fun x hx => ⟨(pickD_mem.1 hx).1, (pickD_mem.1 hx).2.1⟩)
        have HRO : Hid (∀ x ∈ pickD otherP l l.length, 0 ≤ x ∧ x < (l.length : Int)) := hide (fun x hx => ⟨(pickD_mem.1 hx).1, (pickD_mem.1 hx).2.1⟩)
        have hnl : ∀ P, 0 < (pickD P l l.length).length → 0 < l.length := fun P h => Nat.lt_of_lt_of_le h (pickD_len (P := P) (l := l) l.length)
        have hAn : ∀ a, 0 < l.length → A = some a → a.block < w.heap.size := fun a h0 ha => by
          obtain ⟨b, off, e, hlt', _⟩ := hA 0 l[0] (List.getElem?_eq_getElem h0)
          rw [ha] at e
          injection e with e
          subst e
          exact hlt'
        have hSnl : ∀ q, u3.ownBlock = some q → 0 < l.length := fun q hq => by
          refine hnl shortP (List.length_pos_iff.2 (fun e => ?_))
          rw [hS.nil e] at hq
          cases hq
        have hOnl : ∀ q, u4.ownBlock = some q → 0 < l.length := fun q hq => by
          refine hnl otherP (List.length_pos_iff.2 (fun e => ?_))
          rw [hO.nil e] at hq
          cases hq
        have hSlt := World.ownsRow.lt hS.own
        have hOlt := World.ownsRow.lt hO.own
        generalize pickD shortP l l.length = xa at *
        generalize pickD otherP l l.length = xb at *
        have HK1 : Hid (∀ g, u3.ownBlock = some g → KeyK wr g l.length 68 #[.pointer (some ⟨w.heap.size, 0, none⟩)] (prepKey l)) := hide (fun g hg =>
          flowKey1_any wr g w.heap.size c l.length A l rfl (hA.below hb) (fun a ha => by have h1 := hAn a (hSnl g hg) ha; have h2 := (hSlt g hg).1; omega) hbx (by have h2 := (hSlt g hg).1; omega))
        have HC1 := hide (sortByV_any (w.heap.size + 1) l.length 68 u3 xa (prepKey l) #[.pointer (some ⟨w.heap.size, 0, none⟩)] wr (by omega) HRS hS (enters_of Tryd.func68 (by kernel_rfl) rfl) HK1)
        have hmf : ∀ (fn : Fn) (first cap : Array Value) (w : World), (Instr.makeFunc fn first cap).run Tryd.prog w = .ok (.func fn first cap) w := fun _ _ _ _ => rfl
        have HO := hide hO
        have HANB := hide hAn
        have HONL := hide hOnl
        have HSNL := hide hSnl
        have HSLT := hide hSlt
        have HOLT := hide hOlt
        clear hS hO hAn hOnl hSnl hSlt hOlt hnl
        go_wp2_with fail
        refine HC1.out.mono ?_
        rintro e w2 ⟨rfl, hS2, hg2⟩
        have hb2 : Below w.heap.size w w2 := hb.grown hg2 hsz (fun k hk => by have := (HSLT.out k hk).1; omega)
        have hne1 : u4.ownBlock = none ∨ u4.ownBlock ≠ u3.ownBlock := by
          cases e : u3.ownBlock with
          | none => cases e2 : u4.ownBlock <;> simp
          | some q => exact .inr (HNE.out q e)
        have hO2 := HO.out.row hg2 hne1
        have hbx2 : w2.cell? ⟨w.heap.size, 0, none⟩ = some (.slice A l.length c) := hg2.cell hbx (by
          intro e
          have := (HSLT.out _ e.symm).1
          simp at this
          omega)
        have hd2 : DishesAt w2 A l := dishes_grownQ (hA.below hb) hg2 (fun a h0 ha e => by have h1 := HANB.out a h0 ha; have h2 := (HSLT.out _ e.symm).1; omega)
        have HK2 : Hid (∀ g, u4.ownBlock = some g → KeyK w2 g l.length 69 #[.pointer (some ⟨w.heap.size, 0, none⟩)] (cookKey l)) := hide (fun g hg =>
          flowKey2_any w2 g w.heap.size c l.length A l rfl hd2 (fun a ha => by have h1 := HANB.out a (HONL.out g hg) ha; have h2 := (HOLT.out g hg).1; omega) hbx2 (by have h2 := (HOLT.out g hg).1; omega) HI)
        have HC2 := hide (sortByV_any (w.heap.size + 1) l.length 69 u4 xb (cookKey l) #[.pointer (some ⟨w.heap.size, 0, none⟩)] w2 (by omega) HRO hO2 (enters_of Tryd.func69 (by kernel_rfl) rfl) HK2)
        have HS2 := hide hS2
        have hgs2 := hg2.size
        clear hS2 hO2 hd2 hbx2 hbx hg2
        go_wp2_with fail
        refine HC2.out.mono ?_
        rintro e w3 ⟨rfl, hO3, hg3⟩
        have hb3 : Below w.heap.size w w3 := hb2.grown hg3 hb2.size (fun k hk => by have := (HOLT.out k hk).1; omega)
        have hne2 : u3.ownBlock = none ∨ u3.ownBlock ≠ u4.ownBlock := by
          cases e : u3.ownBlock with
          | none => exact .inl rfl
          | some q => exact .inr (fun h => HNE.out q e h.symm)
        have hS3 := HS2.out.row hg3 hne2
        have hsz3 := hb3.size
        have hl1 : (isortTo (prepKey l) xa xa.length).length ≤ 6 := by rw [isortTo_len]; omega
        have hl2 : (isortTo (cookKey l) xb xb.length).length ≤ 6 := by rw [isortTo_len]; omega
        have HF := HF
        generalize isortTo (prepKey l) xa xa.length = sa at *
        generalize isortTo (cookKey l) xb xb.length = sb at *
        have hlo : w.heap.size + 1 ≤ w3.heap.size := by
          have h2 := hg3.size
          omega
        clear hmf hg3
        by_cases hsb : sb = []
        · subst hsb
          obtain rfl := hO3.nil rfl
          have HFF : Hid (sa = flowBestL l) := hide (by rw [← HF.out, List.append_nil])
          by_cases hsa : sa = []
          · subst hsa
            obtain rfl := hS3.nil rfl
            have hs0 := hS3.own
            clear hS3 hO3
            go_wp2_with fail
            refine bodyPost_ret (results_tmp rfl _ _ _) rfl ⟨.slice none 0 0, rfl, by rw [← HFF.out]; exact World.ownsRow_nil _ _ _ _, hb3⟩
          · obtain ⟨g3, c3, rfl, -, -⟩ := hS3.own.own (List.length_pos_iff.2 hsa)
            have HS3 := hide hS3.own
            have hcp := (IntSl.capF hS3.own).2
            clear hS3 hO3
            go_wp2_with fail
            refine bodyPost_ret (results_tmp rfl _ _ _) rfl ⟨.slice (some ⟨g3, 0, none⟩) sa.length c3, rfl, by rw [← HFF.out]; exact IntSl.mono HS3.out (by omega), hb3⟩
        · have hm0 : 0 < sb.length := List.length_pos_iff.2 hsb
          obtain ⟨g4, c4, rfl, -, -⟩ := hO3.own.own hm0
          have hI4 := hO3.own.ints
          go_wp2_with (at_builtin; refine wpList_spreadN_int rfl _ _ rfl (w.heap.size + 1) u3 sa rfl hS3.own ⟨g4, 0, none⟩ sb.length c4 hm0 sb rfl rfl hI4 (by omega) hlo ?_; intro g5 cap w5 hown hgrow; have HOWN := hide hown; have HGROW := hide hgrow; clear hown hgrow)
          have hb5 : Below w.heap.size w w5 := hb3.grown HGROW.out hsz3 (fun k hk => by have := (HSLT.out k hk).1; omega)
          have HFF : Hid (sa ++ sb = flowBestL l) := HF
          refine bodyPost_ret (results_tmp rfl _ _ _) rfl ⟨.slice (some ⟨g5, 0, none⟩) (sa.length + sb.length) cap, rfl, by rw [← HFF.out]; exact IntSl.mono HOWN.out (by omega), hb5⟩

set_option maxHeartbeats 1000000 in
theorem implFlowLeast_any (A : Option Addr) (c : Nat) (l : List Dish) (w : World) (hA : DishesAt w A l) (hl : l.length ≤ 1048576) :
    Calls Tryd.prog 18 #[.slice A l.length c] w fun e w' => e = .returned (.int .i64 (flowEndL l (flowBestL l))) ∧ Below w.heap.size w w' := by
  obtain ⟨T, HT⟩ : ∃ T, Hid (flowBestL l = T) := ⟨_, hide rfl⟩
  have hTl : T.length ≤ 1048576 := by rw [← HT.out]; exact Nat.le_trans (flowBestL_len _) hl
  rw [HT.out]
  go_enter Tryd.func18, Tryd.ntmps18
  go_wp2_with fail
  refine (implFlowBest_any _ _ _ _ hA hl).mono ?_
  rintro e w1 ⟨v, rfl, hS, hB1⟩
  rw [HT.out] at hS
  obtain ⟨A1, c1, rfl, hI, -⟩ := hS.form
  have HI := hide hI
  clear hS hI
  go_wp2_with fail
  refine (implFlowEnd_any _ _ _ _ _ _ _ (hA.below hB1) hl HI.out hTl).mono ?_
  rintro e w2 ⟨rfl, hB2⟩
  have hb2 := next hB1 hB2
  go_wp2_with fail
  go_ret
  exact ⟨rfl, hb2⟩

set_option maxHeartbeats 1000000 in
theorem specFlowLeast_any (A : Option Addr) (c : Nat) (l : List Dish) (w : World) (hA : DishesAt w A l) (hl : l.length ≤ 1048576) :
    Calls Tryd.prog 26 #[.slice A l.length c] w fun e w' => e = .returned (.int .i64 (flowEndL l (flowBestL l))) ∧ Below w.heap.size w w' := by
  obtain ⟨T, HT⟩ : ∃ T, Hid (flowBestL l = T) := ⟨_, hide rfl⟩
  have hTl : T.length ≤ 1048576 := by rw [← HT.out]; exact Nat.le_trans (flowBestL_len _) hl
  rw [HT.out]
  go_enter Tryd.func26, Tryd.ntmps26
  go_wp2_with fail
  refine (specFlowBest_any _ _ _ _ hA hl).mono ?_
  rintro e w1 ⟨v, rfl, hS, hB1⟩
  rw [HT.out] at hS
  obtain ⟨A1, c1, rfl, hI, -⟩ := hS.form
  have HI := hide hI
  have hcp := (IntSl.capG hS).2
  clear hS hI
  go_wp2_with fail
  refine (specFlowEnd_any _ _ _ _ _ _ _ (hA.below hB1) hl HI.out hTl hcp).mono ?_
  rintro e w2 ⟨rfl, hB2⟩
  have hb2 := next hB1 hB2
  go_wp2_with fail
  go_ret
  exact ⟨rfl, hb2⟩
end Go.Proofs.YteloapholoechaaDoor
