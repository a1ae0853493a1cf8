/- The quick settlement settles all, with fewer payments than people: the mathematics.
   Conditions: none beyond each statement's own. -/
import Derived.Test.YtgagfaajilbmmaaFastMath
namespace Go.Proofs.Ytgagfaajilbmmaa
open Go.RowKit

theorem nz_zero {ys : List Int} (h : ys.all (· == 0) = true) : nz ys = 0 := by
  unfold nz
  rw [List.countP_eq_zero]
  intro x hx
  have := List.all_eq_true.1 h x hx
  simpa using this
theorem nz_two {n : Nat} {ys : List Int} {f t : Nat} {s : Int} (hi : FInv n ys) (h : FStep n ys f t s) : 2 ≤ nz ys := by
  have hf : f < ys.length := by rw [hi.len]; exact h.f_lt
  have ht : t < ys.length := by rw [hi.len]; exact h.t_lt
  have ht' : t < (ys.set f 0).length := by rw [List.length_set]; exact ht
  have hg : (ys.set f 0).getD t 0 = maxL ys := by
    rw [← h.tv]
    simp only [List.getD_eq_getElem?_getD]
    rw [List.getElem?_set_ne (fun e => h.ne e.symm)]
  have a := nz_set _ t 0 ht'
  have b := nz_set _ f 0 hf
  have c := h.neg
  have d := h.pos
  rw [hg, if_pos (by simp; omega)] at a
  rw [h.fv, if_pos (by simp; omega)] at b
  simp at a b
  omega
theorem fast_done : ∀ (m : Nat) {n : Nat} {ys : List Int}, FInv n ys → nz ys ≤ m → paysGo (fastGo m ys) ys = true ∧ (0 < nz ys → (fastGo m ys).length < nz ys)
  | m, n, ys, hi, hm => by
    cases hz : ys.all (· == 0) with
    | true =>
      rw [fastGo_zero hz, nz_zero hz]
      exact ⟨hz, fun h => absurd h (by omega)⟩
    | false =>
      have hp := nz_pos hz
      obtain ⟨f, t, s, hs⟩ := fast_step hi hz
      cases m with
      | zero => omega
      | succ m =>
        have hn := hs.next hi
        have ih := fast_done m hn.1 (by omega)
        have h2 := nz_two hi hs
        rw [fastGo_step hz, hs.eq]
        refine ⟨?_, fun _ => ?_⟩
        · show (payOk ⟨f, t, s⟩ ys.length && paysGo (fastGo m (carry ⟨f, t, s⟩ ys)) (carry ⟨f, t, s⟩ ys)) = true
          rw [hi.len, hs.ok, ih.1]
          rfl
        · rw [List.length_cons]
          rcases Nat.eq_zero_or_pos (nz (carry ⟨f, t, s⟩ ys)) with e | e
          · have hz' : (carry ⟨f, t, s⟩ ys).all (· == 0) = true := by
              cases hc : (carry ⟨f, t, s⟩ ys).all (· == 0) with
              | true => rfl
              | false => have := nz_pos hc; omega
            rw [fastGo_zero hz']
            simp
            omega
          · have := ih.2 e
            omega
theorem settleFast_said {xs : List Int} (h : owedOk xs = true) : paysOkL xs (settleFastL xs) = true ∧ (nz xs = 0 → settleFastL xs = []) ∧ (0 < nz xs → (settleFastL xs).length < nz xs) := by
  have hd := fast_done xs.length (FInv.start h) (nz_len xs)
  unfold paysOkL settleFastL
  rw [if_pos h, h]
  refine ⟨by rw [hd.1]; rfl, fun e => ?_, hd.2⟩
  cases hz : xs.all (· == 0) with
  | true => exact fastGo_zero hz
  | false => have := nz_pos hz; omega
theorem nz_take {xs : List Int} {k : Nat} {x : Int} (h : xs[k]? = some x) : nz (xs.take (k + 1)) = nz (xs.take k) + (if (x != 0) = true then 1 else 0) := by
  obtain ⟨hk, e⟩ := List.getElem?_eq_some_iff.1 h
  rw [List.take_succ_eq_append_getElem hk, e]
  unfold nz
  rw [List.countP_append]
  simp [List.countP_cons]
end Go.Proofs.Ytgagfaajilbmmaa
