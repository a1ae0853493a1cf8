/- Guests9: contracts of DishesGreedy, of the program and of the reference model.
   Conditions: lists have at most 1048576 elements. -/
import Derived.Test.YtbkelmolhgofpacGuestMath3
import Derived.Test.YtbkelmolhgofpacGuests5
import Derived.Test.YtbkelmolhgofpacPush
namespace Go.Proofs.Ytbkelmolhgofpac
open Go.RowKit Go.ChangeShapes Go.WideShapes Go.ChangeAt Go.Deep

theorem or_more_all : ∀ x y : Fin 64, 0 < sz (dropI y.val x.val) → x.val < (orI x.val y.val).toNat := by decide +kernel
theorem or_more {x y : Int} (h0 : 0 ≤ x) (h1 : x < 64) (k0 : 0 ≤ y) (k1 : y < 64) (h : 0 < sz (dropI y x)) : x < orI x y := by
  have := or_more_all ⟨x.toNat, by omega⟩ ⟨y.toNat, by omega⟩ (by simpa only [Int.toNat_of_nonneg h0, Int.toNat_of_nonneg k0] using h)
  simp only [Int.toNat_of_nonneg h0, Int.toNat_of_nonneg k0] at this
  omega

theorem l1Meet64_any (a b : Int) (w : World) (h0 : 0 ≤ a) (h1 : a < 64) (h2 : 0 ≤ b) (h3 : b < 64) :
    Calls Try.prog 22 #[.int .i64 a, .int .i64 b] w fun e w' => e = .returned (.int .i64 (meetI a b)) ∧ w' = w := by
  have ho := orI_lt (a := a) (b := b) (by omega) (by omega)
  go_enter Try.func22, Try.ntmps22
  go_wp2_with fail
  refine (l1Join_any _ _ _ h0 h1 h2 h3).mono ?_
  rintro e w' ⟨rfl, rfl⟩
  go_wp2_with fail
  go_ret
  exact ⟨rfl, rfl⟩

theorem l6Count_is (s : Int) (w : World) (h0 : 0 ≤ s) (h1 : s ≤ 9223372036854775807) :
    Calls Try.prog 26 #[.int .i64 s] w fun e w' => e = .returned (.int .i64 (sz s)) ∧ w' = w := (l6Count_any s w h0 h1).mono fun _ _ h => ⟨h.1, h.2.symm⟩

theorem greedy_no {g : Int} {m : List Int} (h : menuOk g m = false) : greedyL g m = [] := by unfold greedyL; rw [h]; rfl
/-- What is known of a round: how many rounds may follow, and where they lead. -/
theorem greedy_step {m : List Int} {f : Nat} {fed : Int} (hX : ∀ x ∈ m, 0 ≤ x ∧ x < 64) (h0 : 0 ≤ fed) (h1 : fed < 64) (hf : 7 ≤ (f : Int) + sz fed) :
    (bestL m fed < 0 ∧ greedyGo m f fed = []) ∨ ∃ (j f' : Nat) (e : Int), f = f' + 1 ∧ bestL m fed = j ∧ m[j]? = some e ∧ greedyGo m f fed = (j : Int) :: greedyGo m f' (orI fed e) ∧ 7 ≤ (f' : Int) + sz (orI fed e) ∧ fed < orI fed e := by
  have hz := sz_range h0 h1
  obtain ⟨f', rfl⟩ : ∃ f', f = f' + 1 := ⟨f - 1, by omega⟩
  rcases bestL_at m fed with h | ⟨j, e, he, hl, hj⟩
  · refine .inl ⟨by omega, ?_⟩
    unfold greedyGo
    rw [if_pos (by omega)]
  · have hx := hX e (List.mem_of_getElem? he)
    have hs := sz_or h0 h1 hx.1 hx.2
    refine .inr ⟨j, f', e, rfl, hj, he, ?_, by omega, or_more h0 h1 hx.1 hx.2 hl⟩
    rw [greedyGo, if_neg (by omega), hj, Int.toNat_natCast, getD_at he]

end Go.Proofs.Ytbkelmolhgofpac
