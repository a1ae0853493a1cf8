/- What UseFirst gives keeps the rules of a use, and each day's shares make the want or all that can be used.
   Conditions: none. -/
import Derived.Test.YtndcanllkmfahaaDoorTakeMath2
namespace Go.Proofs.YtndcanllkmfahaaDoor
open Go.RowKit

theorem useGo_ok : ∀ (wants : List Int) (s : Int) (l : List Lot), lotsOk l = true → (∀ q ∈ wants, 0 ≤ q ∧ q ≤ 50) → useOkGo s l wants (useGo s l wants) = true
  | [], _, _, _, _ => by simp [useOkGo]
  | q :: r, s, l, h, hw => by
    obtain ⟨hk, hs⟩ := takeFirst_ok (day := s) h (inR_iff.2 (hw q (by simp)))
    have ih := useGo_ok r (s + 1) _ (takeDo_ok hk) (fun x hx => hw x (by simp [hx]))
    simp only [useGo, useOkGo, hk, ih, decide_eq_true hs, Bool.and_self]

theorem useFirst_ok {l : List Lot} {wants : List Int} (h : stockOk l wants = true) : useOkL l wants (useFirstL l wants) = true := by
  obtain ⟨h1, h2⟩ := stockOk_parts h
  unfold useOkL useFirstL
  rw [if_pos h, useGo_ok wants 0 l h1 (wantsOk_at h2).2, useGo_len]
  simp [h]

theorem lotsOn_ok : ∀ (wants : List Int) (s : Int) (l : List Lot) (k : Nat), lotsOk l = true → (∀ q ∈ wants, 0 ≤ q ∧ q ≤ 50) → lotsOk (lotsOn s l wants k) = true
  | [], _, _, _, h, _ => h
  | _ :: _, _, _, 0, h, _ => h
  | q :: r, s, l, k + 1, h, hw => by
    obtain ⟨hk, _⟩ := takeFirst_ok (day := s) h (inR_iff.2 (hw q (by simp)))
    exact lotsOn_ok r (s + 1) _ k (takeDo_ok hk) (fun x hx => hw x (by simp [hx]))

/-- A day's shares make the want, or all that can be used on that day. -/
theorem useGo_day {wants : List Int} {l : List Lot} {k : Nat} {q : Int} {t : List Int} (h : stockOk l wants = true) (hq : wants[k]? = some q) (ht : (useFirstL l wants)[k]? = some t) : sumL t = min q (unitsL (lotsOn 0 l wants k) k) ∧ takeOkL (lotsOn 0 l wants k) k t = true := by
  obtain ⟨h1, h2⟩ := stockOk_parts h
  have e := useGo_at (day := 0) (l := l) hq
  unfold useFirstL at ht
  rw [if_pos h, e] at ht
  obtain rfl := Option.some.inj ht
  rw [Int.zero_add]
  have hr := inR_iff.2 ((wantsOk_at h2).2 q (List.mem_of_getElem? hq))
  have ho := lotsOn_ok wants 0 l k h1 (wantsOk_at h2).2
  exact ⟨takeFirst_sum ho hr, (takeFirst_ok ho hr).1⟩
end Go.Proofs.YtndcanllkmfahaaDoor
