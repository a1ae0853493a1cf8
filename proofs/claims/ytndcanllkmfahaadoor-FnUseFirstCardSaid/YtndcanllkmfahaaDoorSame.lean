/- Contracts of the laws' helpers over lists and lists of lists, exact in the world: they only draw.
   Conditions: the lists have at most 1048576 elements. -/
import Derived.Test.YtndcanllkmfahaaDoorLists
import Derived.Test.YtndcanllkmfahaaDoorTables
namespace Go.Proofs.YtndcanllkmfahaaDoor
open Go.RowKit

set_option maxHeartbeats 400000 in
theorem sameInts_q (A A' : Option Addr) (c c' : Nat) (xs : List Int) (w : World) (h1 : IntsAt w A xs) (h2 : IntsAt w A' xs) (hl : xs.length ≤ 1048576) :
    Calls Tryd.prog 56 #[.slice A xs.length c, .slice A' xs.length c'] w fun e w' => e = .returned (.bool true) ∧ ∃ m, w' = w.drewN m := by
  have he : ((xs.length : Int) != xs.length) = false := by simp
  go_enter Tryd.func56, Tryd.ntmps56
  go_wp2_with fail
  go_loopw [5] (fun i wr => ∃ (k n : Nat), k ≤ xs.length ∧ i = .int .i64 k ∧ Hid (wr = w.drewN n)) (fun i _ => xs.length - (intOf i).toNat)
  case atStart => exact ⟨0, 0, Nat.zero_le _, rfl, hide rfl⟩
  case round =>
    obtain ⟨k, n, hk, rfl, HW⟩ := hrel
    have hb : Below w.heap.size w wr := by rw [HW.out]; exact below_drewN (Below.refl _ _) n
    by_cases hlt : k < xs.length
    · obtain ⟨b, off, rfl, hbl, hc1⟩ := (h1.below hb) k xs[k] (List.getElem?_eq_getElem hlt)
      obtain ⟨b', off', rfl, hbl', hc1'⟩ := (h2.below hb) k xs[k] (List.getElem?_eq_getElem hlt)
      generalize xs[k] = p at *
      have hpp : (p != p) = false := by simp
      have hz : (0 : Int) ≤ k := by omega
      have hz2 : (k : Int) < xs.length := by omega
      go_wp2_with fail
      go_quiet (fail)
      go_wp2_with fail
      go_roundw
      case rel => exact ⟨k + 1, _, hlt, by go_num, hide (by rw [HW.out, World.drewN_drewN])⟩
      case measure => simp [intOf]; omega
    · go_wp2_with fail
      go_ret
      exact ⟨rfl, n, HW.out⟩

set_option maxHeartbeats 1000000 in
theorem sameLists_q (A A' : Option Addr) (c c' : Nat) (l : List (List Int)) (w : World) (h1 : RowsAt w A l) (h2 : RowsAt w A' l) (hl : l.length ≤ 1048576) (hp : ∀ x ∈ l, x.length ≤ 1048576) :
    Calls Tryd.prog 32 #[.slice A l.length c, .slice A' l.length c'] w fun e w' => e = .returned (.bool true) ∧ ∃ m, w' = w.drewN m := by
  have he : ((l.length : Int) != l.length) = false := by simp
  have HP := hide hp
  clear hp
  go_enter Tryd.func32, Tryd.ntmps32
  go_wp2_with fail
  go_loopw [5] (fun i wr => ∃ (k n : Nat), k ≤ l.length ∧ i = .int .i64 k ∧ Hid (wr = w.drewN n)) (fun i _ => l.length - (intOf i).toNat)
  case atStart => exact ⟨0, 0, Nat.zero_le _, rfl, hide rfl⟩
  case round =>
    obtain ⟨k, n, hk, rfl, HW⟩ := hrel
    have hb : Below w.heap.size w wr := by rw [HW.out]; exact below_drewN (Below.refl _ _) n
    by_cases hlt : k < l.length
    · obtain ⟨b, off, E, g, rfl, hbl, hc1, hI⟩ := (h1.below hb) k l[k] (List.getElem?_eq_getElem hlt)
      obtain ⟨b', off', E', g', rfl, hbl', hc1', hI'⟩ := (h2.below hb) k l[k] (List.getElem?_eq_getElem hlt)
      have hx : l[k].length ≤ 1048576 := HP.out _ (List.getElem_mem hlt)
      generalize l[k] = x at *
      have HI := hide hI
      have HI' := hide hI'
      have hz : (0 : Int) ≤ k := by omega
      have hz2 : (k : Int) < l.length := by omega
      clear hI hI'
      go_wp2_with fail
      go_quiet ((go_at_call 56; exact Calls.quiet_of (sameInts_q _ _ _ _ _ _ HI.out HI'.out hx)))
      go_wp2_with fail
      go_roundw
      case rel => exact ⟨k + 1, _, hlt, by go_num, hide (by rw [HW.out, World.drewN_drewN])⟩
      case measure => simp [intOf]; omega
    · go_wp2_with fail
      go_ret
      exact ⟨rfl, n, HW.out⟩
end Go.Proofs.YtndcanllkmfahaaDoor
