/- Guests1: all guests, how many are in a set; valid menus; contracts of the program and of the reference model.
   Conditions: lists have at most 1048576 elements. -/
import Derived.Test.YtbkelmolhgofpacGuestMath2
import Derived.Test.YtbkelmolhgofpacStock
import Derived.Laws.BitsLemmas
import Derived.Deep.QuietTactic
import Derived.BigQuiet
import Derived.Laws.Bits64
namespace Go.Proofs.Ytbkelmolhgofpac
open Go.RowKit

theorem l1In_w (n lo hi : Int) (b : Bool) (hb : Hid (inR n lo hi = b)) (w : World) :
    Calls Try.prog 28 #[.int .i64 n, .int .i64 lo, .int .i64 hi] w fun e w' => e = .returned (.bool b) ∧ w = w' := (l1In_is n lo hi b hb w).mono fun _ _ h => ⟨h.1, h.2.symm⟩
theorem inSet_w (s k : Int) (w : World) (h0 : 0 ≤ s) (h1 : s < 64) (h2 : 0 ≤ k) (h3 : k < 6) (b : Bool) (hb : Hid (hasB s k.toNat = b)) :
    Calls Try.prog 31 #[.int .i64 s, .int .i64 k] w fun e w' => e = .returned (.bool b) ∧ w = w' := (inSet_any s k w h0 h1 h2 h3).mono fun _ _ h => ⟨by rw [← hb.out]; exact h.1, h.2.symm⟩
theorem l1Join_w (a b : Int) (w : World) (h0 : 0 ≤ a) (h1 : a < 64) (h2 : 0 ≤ b) (h3 : b < 64) :
    Calls Try.prog 32 #[.int .i64 a, .int .i64 b] w fun e w' => e = .returned (.int .i64 (orI a b)) ∧ w = w' := (l1Join_any a b w h0 h1 h2 h3).mono fun _ _ h => ⟨h.1, h.2.symm⟩

theorem allGuests_any (g : Int) (w : World) (h0 : 0 ≤ g) (h1 : g ≤ 6) :
    Calls Try.prog 25 #[.int .i64 g] w fun e w' => e = .returned (.int .i64 (full g)) ∧ w = w' := by
  have hp := pow_range6 g.toNat (by omega)
  have HF : Hid (full g = 2 ^ g.toNat - 1) := hide rfl
  go_enter Try.func25, Try.ntmps25
  go_wp2_with fail
  go_ret
  exact ⟨by rw [HF.out]; rfl, rfl⟩

theorem below_of_drew {w w' : World} (h : ∃ n, w' = w.drewN n) : Below w.heap.size w w' := by
  obtain ⟨n, rfl⟩ := h
  exact below_drewN (Below.refl _ _) n
end Go.Proofs.Ytbkelmolhgofpac
