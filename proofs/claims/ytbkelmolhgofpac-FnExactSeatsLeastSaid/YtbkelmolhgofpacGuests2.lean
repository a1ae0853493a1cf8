/- Guests2: who is fed, whether all are, how many dishes; contracts of the program and of the reference model.
   Conditions: lists have at most 1048576 elements. -/
import Derived.Test.YtbkelmolhgofpacGuests1
import Derived.Test.YtbkelmolhgofpacGuestPop
namespace Go.Proofs.Ytbkelmolhgofpac
open Go.RowKit

def nil1 : List Int := []

theorem fed_no1 {g d : Int} {m : List Int} (h : menuOk g m = false) : fedL g m d = -1 := by unfold fedL; rw [h]; rfl
theorem fed_no2 {g d : Int} {m : List Int} (h : inR d 0 (full m.length) = false) : fedL g m d = -1 := by unfold fedL; rw [h]; simp
theorem fed_yes {g d : Int} {m : List Int} (h : menuOk g m = true) (h2 : inR d 0 (full m.length) = true) : fedL g m d = fedGo d 0 m 0 := by unfold fedL; rw [h, h2]; rfl
theorem fed_range {g d : Int} {m : List Int} (h : menuOk g m = true) : 0 ≤ fedGo d 0 m 0 ∧ fedGo d 0 m 0 < 64 :=
  fedGo_range m 0 0 (fun x hx => ⟨(menuOk_at h hx).1, (menuOk_at h hx).2.2⟩) (by omega) (by omega)
theorem full_nat (n : Nat) : full (n : Int) = 2 ^ n - 1 := by unfold full; rw [Int.toNat_natCast]

theorem feeds_no {g d : Int} {m : List Int} (h : decide (0 ≤ fedL g m d) = false) : feedsL g m d = false := by unfold feedsL; rw [h]; rfl
theorem fedL_of {g d : Int} {m : List Int} (h : 0 ≤ fedL g m d) : menuOk g m = true := by
  unfold fedL at h
  split at h
  · rename_i h2
    rw [Bool.and_eq_true] at h2
    exact h2.1
  · omega

def manyL (d : Int) : Int := if d < 0 then -1 else sz d
theorem lit_bound {n : Int} (h : (Lit.int .i64 n).wf = true) : -9223372036854775808 ≤ n ∧ n ≤ 9223372036854775807 := by
  simp [Lit.wf, IntKind.min, IntKind.max, IntKind.signed, IntKind.bits] at h
  omega

end Go.Proofs.Ytbkelmolhgofpac
