/- What MakeRun makes by the least plan; and that no number of its row is negative.
   Conditions: none. -/
import Derived.Test.YteloapholoechaaMakeMath
import Derived.Test.YteloapholoechaaPlanMath
namespace Go.Proofs.Yteloapholoechaa
open Go.RowKit

theorem tab_idK (xs : List Int) (n : Nat) (h : xs.length = n) : tab n (fun j => xs.getD j 0) = xs := by
  apply List.ext_getElem?
  intro i
  by_cases hi : i < n
  · rw [tab_at hi, List.getElem?_eq_getElem (by omega)]
    simp [show i < xs.length by omega]
  · rw [List.getElem?_eq_none (by rw [tab_len]; omega), List.getElem?_eq_none (by omega)]
theorem conTo_up {ps : List Part} {r : Int} (hp : ∀ p ∈ ps, 0 ≤ p.many ∧ p.many ≤ 6) (k0 : 0 ≤ r) (j a : Nat) : ∀ d : Nat, conTo ps r j a ≤ conTo ps r j (a + d)
  | 0 => Int.le_refl _
  | d + 1 => by
    have ih := conTo_up hp k0 j a d
    have b := getD_parts hp (a + d)
    have c : 0 ≤ (ps.getD (a + d) ⟨0, 0⟩).many * r := Int.mul_nonneg b.1 k0
    rw [show a + (d + 1) = (a + d) + 1 from rfl, conTo_succ]
    split <;> omega

/-- The number of thing j once the items before k are made, and m parts of item k are taken. -/
def nowAt (l : List Item) (stock rs : List Int) (k m j : Nat) : Int := stock.getD j 0 + (if j < k then madeI (l.getD j nil0).yield (rs.getD j 0) else 0) - upS l rs j k - conTo (l.getD k nil0).parts (rs.getD k 0) j m

theorem mkParts_tab {l : List Item} {stock rs : List Int} (h : itemsOk l = true) (hr : ∀ (i : Nat) r, rs[i]? = some r → 0 ≤ r ∧ r ≤ 9999999) (hr0 : ∀ k, 0 ≤ rs.getD k 0)
    (hpos : ∀ j, j < l.length → 0 ≤ stock.getD j 0 + madeI (l.getD j nil0).yield (rs.getD j 0) - upS l rs j l.length) {k : Nat} (hk : k < l.length) :
    ∀ d m : Nat, m + d = (l.getD k nil0).parts.length → mkParts (rs.getD k 0) ((l.getD k nil0).parts.drop m) (tab l.length (nowAt l stock rs k m)) = some (tab l.length (nowAt l stock rs k (l.getD k nil0).parts.length))
  | 0, m, hm => by
    rw [List.drop_of_length_le (by omega), show m = (l.getD k nil0).parts.length by omega]
    rfl
  | d + 1, m, hm => by
    have hx : l[k]? = some (l.getD k nil0) := by simp [hk]
    have hit := itemsOk_at h hx
    have hmany := (itemsOk_many h k _ hx).2
    have hml : m < (l.getD k nil0).parts.length := by omega
    have ih := mkParts_tab h hr hr0 hpos hk d (m + 1) (by omega)
    have hD : (l.getD k nil0).parts.drop m = (l.getD k nil0).parts[m] :: (l.getD k nil0).parts.drop (m + 1) := List.drop_eq_getElem_cons hml
    have hP : (l.getD k nil0).parts.getD m ⟨0, 0⟩ = (l.getD k nil0).parts[m] := by rw [List.getD_eq_getElem?_getD, List.getElem?_eq_getElem hml]; rfl
    have hb := hit.2.2.2.2.2.2 _ (List.getElem_mem hml)
    have hS : ∀ j, conTo (l.getD k nil0).parts (rs.getD k 0) j (m + 1) = conTo (l.getD k nil0).parts (rs.getD k 0) j m + (if ((l.getD k nil0).parts[m]).of = (j : Int) then ((l.getD k nil0).parts[m]).many * rs.getD k 0 else 0) := fun j => by rw [conTo_succ, hP]
    generalize (l.getD k nil0).parts[m] = p at *
    obtain ⟨o, ho⟩ : ∃ o : Nat, p.of = o := ⟨p.of.toNat, by omega⟩
    have hoN : p.of.toNat = o := by omega
    have hok : o < k := by omega
    have hg : (tab l.length (nowAt l stock rs k m)).getD p.of.toNat 0 = nowAt l stock rs k m o := by rw [hoN]; exact tab_getDp (by omega)
    have hv : nowAt l stock rs k m o - p.many * rs.getD k 0 = nowAt l stock rs k (m + 1) o := by
      unfold nowAt
      rw [hS o, if_pos ho]
      omega
    have hge : ¬ nowAt l stock rs k (m + 1) o < 0 := by
      have a := upS_mono (itemsOk_many h) hr o (k + 1) l.length (by omega)
      have b := conTo_up hmany (hr0 k) o (m + 1) d
      rw [show m + 1 + d = (l.getD k nil0).parts.length by omega] at b
      have c := hpos o (by omega)
      rw [upS_succ] at a
      unfold nowAt
      rw [if_pos hok]
      omega
    rw [hD, show mkParts (rs.getD k 0) (p :: (l.getD k nil0).parts.drop (m + 1)) (tab l.length (nowAt l stock rs k m)) = if (tab l.length (nowAt l stock rs k m)).getD p.of.toNat 0 - p.many * rs.getD k 0 < 0 then none else mkParts (rs.getD k 0) ((l.getD k nil0).parts.drop (m + 1)) ((tab l.length (nowAt l stock rs k m)).set p.of.toNat ((tab l.length (nowAt l stock rs k m)).getD p.of.toNat 0 - p.many * rs.getD k 0)) from rfl, hg, hv, if_neg hge, hoN, tab_set,
      tab_congr (g := nowAt l stock rs k (m + 1)) (fun j hj => ?_)]
    · exact ih
    · by_cases e : j = o
      · subst e; rw [if_pos rfl]
      · rw [if_neg e]
        unfold nowAt
        rw [hS j, if_neg (c := p.of = (j : Int)) (by omega)]
        omega

theorem mkGo_tab {l : List Item} {stock rs : List Int} (h : itemsOk l = true) (hr : ∀ (i : Nat) r, rs[i]? = some r → 0 ≤ r ∧ r ≤ 9999999) (hr0 : ∀ k, 0 ≤ rs.getD k 0)
    (hpos : ∀ j, j < l.length → 0 ≤ stock.getD j 0 + madeI (l.getD j nil0).yield (rs.getD j 0) - upS l rs j l.length) :
    ∀ d k : Nat, k + d = l.length → mkGo rs k (l.drop k) (tab l.length (nowAt l stock rs k 0)) = some (tab l.length (fun j => stock.getD j 0 + madeI (l.getD j nil0).yield (rs.getD j 0) - upS l rs j l.length))
  | 0, k, hk => by
    obtain rfl : k = l.length := by omega
    rw [List.drop_length]
    show some _ = some _
    congr 1
    refine tab_congr (fun j hj => ?_)
    unfold nowAt
    rw [if_pos hj]
    show _ - _ - (0 : Int) = _
    omega
  | d + 1, k, hk => by
    have hkl : k < l.length := by omega
    have ih := mkGo_tab h hr hr0 hpos d (k + 1) (by omega)
    have hD : l.drop k = l.getD k nil0 :: l.drop (k + 1) := by
      rw [List.drop_eq_getElem_cons hkl]
      simp [hkl]
    have hp := mkParts_tab h hr hr0 hpos hkl (l.getD k nil0).parts.length 0 (by omega)
    rw [List.drop_zero] at hp
    have := mkGo_some (rs := rs) (k := k) (xs := l.drop (k + 1)) (a := mkGo rs k (l.drop k) (tab l.length (nowAt l stock rs k 0))) (by rw [hD]) hp
    rw [this, tab_getDp hkl, tab_set, tab_congr (g := nowAt l stock rs (k + 1) 0) (fun j hj => ?_)]
    · exact ih
    · have hz : conTo (l.getD (k + 1) nil0).parts (rs.getD (k + 1) 0) j 0 = 0 := rfl
      by_cases e : j = k
      · subst e
        rw [if_pos rfl]
        unfold nowAt
        rw [if_neg (by omega), if_pos (by omega), upS_succ, hz]
        omega
      · rw [if_neg e]
        unfold nowAt
        rw [upS_succ, hz]
        by_cases e2 : j < k
        · rw [if_pos e2, if_pos (by omega)]; omega
        · rw [if_neg e2, if_neg (by omega)]; omega

/-- By the least plan there is of each thing what is wanted and what the plan leaves. -/
theorem make_least {l : List Item} {want stock : List Int} (h : amountsOk l want stock = true) :
    makeRunL l stock (lstL l want stock) = some (tab l.length (fun k => want.getD k 0 + (leastLeft l want stock).getD k 0)) := by
  obtain ⟨h1, ⟨h2, h3⟩, ⟨h4, h5⟩⟩ := amountsOk_at h
  have hr := lstL_range h
  have hr1 : ∀ (i : Nat) r, (lstL l want stock)[i]? = some r → 0 ≤ r ∧ r ≤ 9999999 := fun i r hi => rangeOk_at hr hi
  have hr0 : ∀ k, 0 ≤ (lstL l want stock).getD k 0 := fun k => lstL_pos h1 k
  have hw := fun i => getD_rng h3 (by omega) i
  have hpos : ∀ j, j < l.length → 0 ≤ stock.getD j 0 + madeI (l.getD j nil0).yield ((lstL l want stock).getD j 0) - upS l (lstL l want stock) j l.length := fun j hj => by
    have a := (least_left h hj).1
    have b := (hw j).1
    unfold leftAt at a
    omega
  have hs : amtOk l stock = true := by unfold amtOk; rw [decide_eq_true (by omega), h5]; rfl
  rw [makeRun_go h1 hs (lstL_runs h)]
  have key := mkGo_tab h1 hr1 hr0 hpos l.length 0 (by omega)
  rw [List.drop_zero, tab_congr (g := fun j => stock.getD j 0) (fun j hj => ?_), tab_idK stock l.length h4] at key
  · rw [key]
    congr 1
    refine tab_congr (fun j hj => ?_)
    unfold leastLeft
    rw [tab_getDp hj]
    unfold leftAt
    omega
  · unfold nowAt
    rw [if_neg (by omega)]
    show _ + (0 : Int) - 0 - 0 = _
    omega

theorem mkParts_keep {r : Int} : ∀ (ps : List Part) (now n1 : List Int), mkParts r ps now = some n1 → n1.length = now.length ∧ ((∀ x ∈ now, 0 ≤ x) → ∀ x ∈ n1, 0 ≤ x)
  | [], now, n1, h => by
    have h : some now = some n1 := h
    injection h with h
    subst h
    exact ⟨rfl, fun h => h⟩
  | p :: ps, now, n1, h => by
    unfold mkParts at h
    split at h
    · cases h
    · rename_i hv
      have ih := mkParts_keep ps _ n1 h
      refine ⟨by rw [ih.1, List.length_set], fun h0 => ih.2 (fun x hx => ?_)⟩
      rcases List.mem_or_eq_of_mem_set hx with h2 | h2
      · exact h0 x h2
      · omega
theorem mkGo_keep {rs : List Int} (hr : ∀ k, 0 ≤ rs.getD k 0) : ∀ (l : List Item) (k : Nat) (now n1 : List Int), (∀ x ∈ l, 0 ≤ x.yield) → mkGo rs k l now = some n1 → n1.length = now.length ∧ ((∀ x ∈ now, 0 ≤ x) → ∀ x ∈ n1, 0 ≤ x)
  | [], k, now, n1, _, h => by
    have h : some now = some n1 := h
    injection h with h
    subst h
    exact ⟨rfl, fun h => h⟩
  | x :: xs, k, now, n1, hy, h => by
    cases hp : mkParts (rs.getD k 0) x.parts now with
    | none => rw [mkGo_none rfl hp] at h; cases h
    | some n2 =>
      rw [mkGo_some rfl hp] at h
      have a := mkParts_keep _ _ _ hp
      have ih := mkGo_keep hr xs (k + 1) _ n1 (fun y hy' => hy y (by simp [hy'])) h
      refine ⟨by rw [ih.1, List.length_set, a.1], fun h0 => ih.2 (fun z hz => ?_)⟩
      rcases List.mem_or_eq_of_mem_set hz with h2 | h2
      · exact a.2 h0 z h2
      · have hm : 0 ≤ madeI x.yield (rs.getD k 0) := by
          unfold madeI
          have := hy x (by simp)
          split
          · exact Int.mul_nonneg (hr k) this
          · exact hr k
        have hn : 0 ≤ n2.getD k 0 := by
          by_cases hk : k < n2.length
          · rw [List.getD_eq_getElem?_getD, List.getElem?_eq_getElem hk]
            exact a.2 h0 _ (List.getElem_mem hk)
          · rw [getD_zero (by omega)]
            exact Int.le_refl _
        omega
theorem makeRun_some {l : List Item} {stock rs now : List Int} (h : makeRunL l stock rs = some now) : now.length = l.length ∧ ∀ x ∈ now, 0 ≤ x := by
  unfold makeRunL at h
  split at h
  · rename_i hc
    obtain ⟨h1, h2, h3⟩ := hc
    obtain ⟨h4, h5⟩ := amtOk_at h2
    have h6 := (runsOk_at h3).2
    have hy : ∀ x ∈ l, 0 ≤ x.yield := fun x hx => by
      obtain ⟨i, hi⟩ := List.getElem?_of_mem hx
      exact (itemsOk_at h1 hi).2.2.1
    have := mkGo_keep (fun k => (getD_rng h6 (by omega) k).1) l 0 stock now hy h
    exact ⟨by rw [this.1, h4], this.2 (fun x hx => by
      obtain ⟨i, hi⟩ := List.getElem?_of_mem hx
      exact (rangeOk_at h5 hi).1)⟩
  · cases h
end Go.Proofs.Yteloapholoechaa
