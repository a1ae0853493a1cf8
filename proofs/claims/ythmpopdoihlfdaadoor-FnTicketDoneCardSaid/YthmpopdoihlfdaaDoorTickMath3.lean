/- Work in a row: as many pieces as there are, in two parts the same, and what was taken back stays so.
   Conditions: none. -/
import Derived.Test.YthmpopdoihlfdaaDoorTickMath2
import Derived.Test.YthmpopdoihlfdaaDoorTick10
namespace Go.Proofs.YthmpopdoihlfdaaDoor
/-- As many pieces as there are, or as are asked. -/
theorem workStep_iff {l : List (List Order)} (h : kitchenOkL l = true) : (workStepL l).2 = true ↔ 0 < leftK l := by
  have h1 := leftK_range l (fun t ht => kitchenOk_at h ht)
  have h2 := leftK_done (l := l) (fun t ht => kitchenOk_at h ht)
  rw [workStep_done h]
  cases hd : allDone l with
  | true => have := h2.2 hd; simp; omega
  | false =>
    have : leftK l ≠ 0 := fun e => by rw [h2.1 e] at hd; cases hd
    simp
    omega
theorem runGo_many : ∀ (n : Nat) {l : List (List Order)}, kitchenOkL l = true → ((runGo n l).2 : Int) = min (n : Int) (leftK l) ∧ leftK (runGo n l).1 = leftK l - (runGo n l).2
  | 0, l, h => by
    have h1 := leftK_range l (fun t ht => kitchenOk_at h ht)
    simp only [runGo]
    omega
  | n + 1, l, h => by
    have h1 := leftK_range l (fun t ht => kitchenOk_at h ht)
    rw [runGo]
    by_cases hs : (workStepL l).2 = true
    · rw [if_pos hs]
      have ih := runGo_many n (workStep_ok h)
      have hl := workStep_left h hs
      have := (workStep_iff h).1 hs
      simp only
      omega
    · rw [if_neg hs]
      have : ¬ 0 < leftK l := fun e => hs ((workStep_iff h).2 e)
      simp only
      omega
/-- In two parts, one after the other, it is the same. -/
theorem runGo_two : ∀ (a b : Nat) {l : List (List Order)}, kitchenOkL l = true → (runGo (a + b) l).1 = (runGo b (runGo a l).1).1
  | 0, b, l, h => by rw [Nat.zero_add]; rfl
  | a + 1, b, l, h => by
    rw [show a + 1 + b = (a + b) + 1 from by omega, runGo, runGo]
    by_cases hs : (workStepL l).2 = true
    · rw [if_pos hs, if_pos hs]
      exact runGo_two a b (workStep_ok h)
    · rw [if_neg hs, if_neg hs]
      cases b with
      | zero => rfl
      | succ b => simp only; rw [runGo, if_neg hs]
/-- Two kitchens of the same tickets, where the same dishes were taken back. -/
def likeT (t t' : List Order) : Prop := t'.length = t.length ∧ ∀ j, j < t.length → ((t'.getD j ⟨0, 0⟩).state = 4 ↔ (t.getD j ⟨0, 0⟩).state = 4)
def likeK (l l' : List (List Order)) : Prop := l'.length = l.length ∧ ∀ a, a < l.length → likeT (l.getD a []) (l'.getD a [])
theorem likeT_refl (t : List Order) : likeT t t := ⟨rfl, fun _ _ => Iff.rfl⟩
theorem likeT_trans {a b c : List Order} (h : likeT a b) (k : likeT b c) : likeT a c := ⟨k.1.trans h.1, fun j hj => (k.2 j (by rw [h.1]; exact hj)).trans (h.2 j hj)⟩
theorem likeK_refl (l : List (List Order)) : likeK l l := ⟨rfl, fun _ _ => likeT_refl _⟩
theorem likeK_trans {a b c : List (List Order)} (h : likeK a b) (k : likeK b c) : likeK a c := ⟨k.1.trans h.1, fun j hj => likeT_trans (h.2 j hj) (k.2 j (by rw [h.1]; exact hj))⟩
theorem likeK_put {l : List (List Order)} {a j : Nat} {n : Int} (ha : a < l.length) (hj : j < (l.getD a []).length) (hs : ((l.getD a []).getD j ⟨0, 0⟩).state = n - 1) (hn : n ≤ 3) : likeK l (putK l a j n) := by
  refine ⟨putK_len .., fun b hb => ?_⟩
  unfold putK
  by_cases e : b = a
  · subst e
    have : (l.set b (turned (l.getD b []) j n)).getD b [] = turned (l.getD b []) j n := by rw [List.getD_eq_getElem?_getD, List.getElem?_set_self hb]; rfl
    rw [this]
    refine ⟨turned_len .., fun i hi => ?_⟩
    rw [turned_at i hi]
    by_cases e2 : i = j
    · subst e2
      rw [if_pos rfl, hs]
      constructor
      · intro h4; have h4 : n = 4 := h4; omega
      · intro h4; have h4 : n - 1 = 4 := h4; omega
    · rw [if_neg e2]
  · have : (l.set a (turned (l.getD a []) j n)).getD b [] = l.getD b [] := by rw [List.getD_eq_getElem?_getD, List.getElem?_set_ne (fun h => e h.symm), ← List.getD_eq_getElem?_getD]
    rw [this]
    exact likeT_refl _
theorem workStep_like {l : List (List Order)} (h : kitchenOkL l = true) : likeK l (workStepL l).1 := by
  cases hs : (workStepL l).2 with
  | false => rw [workStep_stays h hs]; exact likeK_refl _
  | true =>
    obtain ⟨a, j, n, h1, h2, h3, _, h5, e⟩ := workStep_place h hs
    rw [e]
    exact likeK_put h1 h2 h3 h5
theorem runGo_like : ∀ (n : Nat) {l : List (List Order)}, kitchenOkL l = true → likeK l (runGo n l).1
  | 0, l, h => likeK_refl _
  | n + 1, l, h => by
    rw [runGo]
    split
    · exact likeK_trans (workStep_like h) (runGo_like n (workStep_ok h))
    · exact likeK_refl _
/-- With enough pieces of work all tickets are done. -/
theorem runGo_end {l : List (List Order)} (h : kitchenOkL l = true) : ((runGo 99 l).2 : Int) = leftK l ∧ allDone (runGo 99 l).1 = true := by
  have h1 := leftK_range l (fun t ht => kitchenOk_at h ht)
  have h4 := kitchenOk_len h
  have hm := runGo_many 99 h
  have hk := runGo_ok 99 h
  have h0 : leftK (runGo 99 l).1 = 0 := by omega
  exact ⟨by omega, (leftK_done (fun t ht => kitchenOk_at hk ht)).1 h0⟩
end Go.Proofs.YthmpopdoihlfdaaDoor
