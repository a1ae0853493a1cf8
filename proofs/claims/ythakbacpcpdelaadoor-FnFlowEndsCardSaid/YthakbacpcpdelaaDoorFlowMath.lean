/- Where each dish stands when it is cooked: what the reckoning leaves at an index.
   Conditions: none beyond each statement's own. -/
import Derived.Test.YthakbacpcpdelaaDoorFlow2
namespace Go.Proofs.YthakbacpcpdelaaDoor
open Go.RowKit

theorem flowGo_other (l : List Dish) {q : Nat} : ∀ (ord : List Int) (f s : Int) (e : List Int), (∀ o ∈ ord, 0 ≤ o) → (q : Int) ∉ ord → (flowGo l f s ord e)[q]? = e[q]?
  | [], f, s, e, _, _ => rfl
  | o :: r, f, s, e, h0, hq => by
    have ho := h0 o (by simp)
    have hne : (q : Int) ≠ o := fun e => hq (by simp [e])
    unfold flowGo
    rw [flowGo_other l r _ _ _ (fun x hx => h0 x (by simp [hx])) (fun h => hq (by simp [h])), List.getElem?_set_ne (by omega)]
/-- At one step: what the dish's own end is, and what is left of the reckoning. -/
theorem flow_at {l : List Dish} {ord : List Int} (hd : ord.Nodup) (h0 : ∀ o ∈ ord, 0 ≤ o) {k q : Nat} {x : Dish} {f s : Int} {e E : List Int} (hk : ord[k]? = some (q : Int)) (hx : l[q]? = some x) (he : e.length = l.length) (hE : flowGo l f s (ord.drop k) e = E) :
    ∃ s' e', s' = (if s < f + x.prep then f + x.prep else s) + x.cook ∧ E[q]? = some s' ∧ e'.length = l.length ∧ flowGo l (f + x.prep) s' (ord.drop (k + 1)) e' = E := by
  refine ⟨_, e.set q ((if s < f + x.prep then f + x.prep else s) + x.cook), rfl, ?_, by rw [List.length_set, he], ?_⟩
  · rw [← hE, flow_step hk hx, flowGo_other l _ _ _ _ (fun o ho => h0 o (List.mem_of_mem_drop ho))]
    · rw [List.getElem?_set_self (by rw [he]; exact (List.getElem?_eq_some_iff.1 hx).1)]
    · intro hm
      obtain ⟨hkl, hke⟩ := List.getElem?_eq_some_iff.1 hk
      have hd2 := hd
      rw [← List.take_append_drop (k + 1) ord] at hd2
      have hmt : (q : Int) ∈ ord.take (k + 1) := by
        rw [List.take_succ_eq_append_getElem hkl, hke]
        simp
      exact (List.nodup_append.1 hd2).2.2 _ hmt _ hm rfl
  · rw [← flow_step hk hx]
    exact hE
end Go.Proofs.YthakbacpcpdelaaDoor
