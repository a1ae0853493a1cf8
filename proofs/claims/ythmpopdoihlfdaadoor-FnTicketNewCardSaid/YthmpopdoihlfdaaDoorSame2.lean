/- The laws' helpers that compare tickets and kitchens: equal ones are equal.
   Conditions: lists have at most 1048576 elements. -/
import Derived.Test.YthmpopdoihlfdaaDoorOTables
namespace Go.Proofs.YthmpopdoihlfdaaDoor
open Go.RowKit Go.ChangeShapes Go.WideShapes Go.ChangeAt Go.Deep

set_option maxHeartbeats 400000 in
theorem sameTicket_same (A A' : Option Addr) (c c' : Nat) (ls : List Order) (w : World) (h1 : OrdersAt w A ls) (h2 : OrdersAt w A' ls) (hl : ls.length ≤ 1048576) :
    Calls Tryd.prog 20 #[.slice A ls.length c, .slice A' ls.length c'] w fun e w' => e = .returned (.bool true) ∧ Below w.heap.size w w' := by
  have he : ((ls.length : Int) != ls.length) = false := by simp
  go_enter Tryd.func20, Tryd.ntmps20
  go_wp2_with fail
  go_loopw [5] (fun i wr => ∃ k : Nat, k ≤ ls.length ∧ i = .int .i64 k ∧ Below w.heap.size w wr) (fun i _ => ls.length - (intOf i).toNat)
  case atStart => exact ⟨0, Nat.zero_le _, rfl, Below.refl _ _⟩
  case round =>
    obtain ⟨k, hk, rfl, hb⟩ := hrel
    have hsz := hb.size
    by_cases hlt : k < ls.length
    · obtain ⟨b, off, rfl, hbl, hc1, hc2⟩ := h1 k ls[k] (List.getElem?_eq_getElem hlt)
      obtain ⟨b', off', rfl, hbl', hc1', hc2'⟩ := h2 k ls[k] (List.getElem?_eq_getElem hlt)
      rw [← hb.cell hbl] at hc1 hc2
      rw [← hb.cell hbl'] at hc1' hc2'
      generalize ls[k] = p at *
      have hz : (0 : Int) ≤ k := by omega
      have hz2 : (k : Int) < ls.length := by omega
      have hpc : (p.course == p.course) = true := by simp
      have hps : (p.state == p.state) = true := by simp
      go_wp2_with fail
      go_quiet (fail)
      go_wp2_with fail
      go_roundw
      case rel => exact ⟨k + 1, hlt, by go_num, below_drewN hb _⟩
      case measure => simp [intOf]; omega
    · have hz2 : ¬ (k : Int) < ls.length := by omega
      go_wp2_with fail
      go_ret
      exact ⟨rfl, by go_grown⟩

set_option maxHeartbeats 400000 in
theorem sameKitchen_same (A A' : Option Addr) (c c' : Nat) (l : List (List Order)) (w : World) (h1 : TicksAt w A l) (h2 : TicksAt w A' l) (hl : l.length ≤ 1048576) (hp : ∀ x ∈ l, x.length ≤ 1048576) :
    Calls Tryd.prog 46 #[.slice A l.length c, .slice A' l.length c'] w fun e w' => e = .returned (.bool true) ∧ Below w.heap.size w w' := by
  have he : ((l.length : Int) != l.length) = false := by simp
  have HP := hide hp
  clear hp
  go_enter Tryd.func46, Tryd.ntmps46
  go_wp2_with fail
  go_loopw [5] (fun i wr => ∃ k : Nat, k ≤ l.length ∧ i = .int .i64 k ∧ Below w.heap.size w wr) (fun i _ => l.length - (intOf i).toNat)
  case atStart => exact ⟨0, Nat.zero_le _, rfl, Below.refl _ _⟩
  case round =>
    obtain ⟨k, hk, rfl, hb⟩ := hrel
    have hsz := hb.size
    by_cases hlt : k < l.length
    · obtain ⟨b, off, B, d, rfl, hbl, hc1, hpa⟩ := (h1.below hb) k l[k] (List.getElem?_eq_getElem hlt)
      obtain ⟨b', off', B', d', rfl, hbl', hc1', hpa'⟩ := (h2.below hb) k l[k] (List.getElem?_eq_getElem hlt)
      have hx : l[k].length ≤ 1048576 := HP.out _ (List.getElem_mem hlt)
      generalize l[k] = x at *
      have hz : (0 : Int) ≤ k := by omega
      have hz2 : (k : Int) < l.length := by omega
      have HA := hide hpa
      have HA' := hide hpa'
      clear hpa hpa'
      go_wp2_with fail
      go_region_held3 (fun W => W.cell? ⟨b, off + k, none⟩ = some (.slice B x.length d) ∧ W.cell? ⟨b', off' + k, none⟩ = some (.slice B' x.length d'))
        (first | exact ⟨hc1, hc1'⟩ | exact ⟨(hB.cell hbl).trans hc1, (hB.cell hbl').trans hc1'⟩)
        (first | (go_at_call 20; refine (sameTicket_same _ _ _ _ _ wr.drew (id HA.out) (id HA'.out) hx).mono ?_; rintro e W' ⟨rfl, hB⟩))
      have hb2 : Below w.heap.size w W' := hb.drew.trans (hB.mono hsz)
      have hsz2 := hb2.size
      go_wp2_with fail
      go_roundw
      case rel => exact ⟨k + 1, hlt, by go_num, by go_grown⟩
      case measure => simp [intOf]; omega
    · have hz2 : ¬ (k : Int) < l.length := by omega
      go_wp2_with fail
      go_ret
      exact ⟨rfl, by go_grown⟩
end Go.Proofs.YthmpopdoihlfdaaDoor
