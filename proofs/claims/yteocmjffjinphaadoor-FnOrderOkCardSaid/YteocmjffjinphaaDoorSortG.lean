/- The greatest numbers first: the contract of the program's helper.
   Conditions: the list has at most 19 elements, each between -1000000000000 and 1000000000000. -/
import Derived.Test.YteocmjffjinphaaDoorSortK2
namespace Go.Proofs.YteocmjffjinphaaDoor
open Go.RowKit Go.ChangeShapes Go.WideShapes Go.ChangeAt Go.Deep

def negKey (xs : List Int) (i : Int) : Int := -(xs.getD i.toNat 0)
def gfL (xs : List Int) : List Int := sortBy (negKey xs) xs.length

theorem gfL_len (xs : List Int) : (gfL xs).length = xs.length := sortBy_len _ _
theorem gfL_mem {xs : List Int} {x : Int} : x ∈ gfL xs ↔ 0 ≤ x ∧ x < xs.length := sortBy_mem

set_option maxHeartbeats 1000000 in
theorem gfKey_any (w : World) (g bx c n : Nat) (A : Option Addr) (xs : List Int) (hn : xs.length = n) (hA : IntsAt w A xs) (hne : ∀ a, A = some a → a.block ≠ g) (hbx : w.cell? ⟨bx, 0, none⟩ = some (.slice A n c)) (hbg : bx ≠ g)
    (HB : Hid (∀ x ∈ xs, -1000000000000 ≤ x ∧ x ≤ 1000000000000)) :
    KeyK w g n 95 #[.pointer (some ⟨bx, 0, none⟩)] (negKey xs) := by
  intro W hg x hx0 hx1
  subst hn
  have hc : W.cell? ⟨bx, 0, none⟩ = some (.slice A xs.length c) := hg.cell hbx (by intro e; injection e with e; exact hbg e)
  obtain ⟨q, rfl⟩ : ∃ q : Nat, x = q := ⟨x.toNat, by omega⟩
  have hq : q < xs.length := by omega
  obtain ⟨b, off, rfl, hbl, hc1⟩ := hA q xs[q] (List.getElem?_eq_getElem hq)
  have hc2 : W.cell? ⟨b, off + q, none⟩ = some (.int .i64 xs[q]) := hg.cell hc1 (by intro e; injection e with e; exact hne _ rfl e)
  have hr := HB.out _ (List.getElem_mem hq)
  have HV : Hid (negKey xs q = -(xs[q])) := hide (by simp [negKey, hq])
  generalize xs[q] = v at *
  have hw1 : IntKind.i64.wrap (-v) = -v := IntWalk.i64_in _ (by omega)
  have hz : (0 : Int) ≤ q := by omega
  have hz2 : (q : Int) < xs.length := by omega
  clear hg hA hne hbx hbg hc1 hr
  show Calls Tryd.prog 95 #[.int .i64 q, .pointer (some ⟨bx, 0, none⟩)] W _
  go_enter Tryd.func95, Tryd.ntmps95
  go_wp2_with fail
  go_ret
  exact ⟨by rw [HV.out]; rfl, 0, rfl⟩

set_option maxHeartbeats 2000000 in
theorem greatestFirst_any (A : Option Addr) (c : Nat) (xs : List Int) (w : World) (hA : IntsAt w A xs) (hl : xs.length < 20) (HB : Hid (∀ x ∈ xs, -1000000000000 ≤ x ∧ x ≤ 1000000000000)) (hAn : ∀ a, A = some a → a.block < w.heap.size) :
    Calls Tryd.prog 73 #[.slice A xs.length c] w fun e w' => ∃ B d, e = .returned (.slice (some B) xs.length d) ∧ IntSl w' w.heap.size (.slice (some B) xs.length d) (gfL xs) ∧ Below w.heap.size w w' := by
  have hmk := make_ints xs.length (by omega)
  have hmf : ∀ (fn : Fn) (first cap : Array Value) (w : World), (Instr.makeFunc fn first cap).run Tryd.prog w = .ok (.func fn first cap) w := fun _ _ _ _ => rfl
  have HZ := hide (OwnInts.sl (w := (w.alloc (.cells #[.slice A xs.length c] 30)).alloc (.cells (madeCells #[.int .i64 0] xs.length) 3)) (lo := w.heap.size) (g := w.heap.size + 1) (xs := tab xs.length (fun _ => 0)) (by
    unfold OwnInts
    rw [tab_len]
    have := World.rowIs_made (w.alloc (.cells #[.slice A xs.length c] 30)) (.int .i64 0) xs.length 3
    simp only [World.size_alloc] at this
    exact this.congr (fun i hi => by simp [tab, hi])) (by omega) (by rw [tab_len]; omega))
  go_enter Tryd.func73, Tryd.ntmps73
  go_wp2_with fail
  clear hmk
  go_loopw [10] (fun i wr => ∃ k : Nat, k ≤ xs.length ∧ i = .int .i64 k ∧ IntSl wr w.heap.size (.slice (some ⟨w.heap.size + 1, 0, none⟩) xs.length xs.length) (tab xs.length (fun j => if j < k then (j : Int) else 0)) ∧ Below w.heap.size w wr ∧ wr.cell? ⟨w.heap.size, 0, none⟩ = some (.slice A xs.length c) ∧ w.heap.size < wr.heap.size) (fun i _ => xs.length - (intOf i).toNat)
  case atStart => exact ⟨0, Nat.zero_le _, rfl, by
    have := HZ.out
    rw [tab_len] at this
    simpa using this, by go_grown, by simp, by simp; omega⟩
  case round =>
    clear HZ
    obtain ⟨k, hk, rfl, hS, hb, hx, hlt0⟩ := hrel
    have hsz := hb.size
    by_cases hlt : k < xs.length
    · have hz : (0 : Int) ≤ k := by omega
      have hz2 : (k : Int) < xs.length := by omega
      have hcell := hS.cellAt (tab_at (f := fun j => if j < k then (j : Int) else 0) hlt)
      generalize (if k < k then (k : Int) else 0) = old at hcell
      have hfz := hS.frozenAt k
      have g1 := IntSl.grownSet hS k (k : Int)
      have o1 := IntSl.store hS k (k : Int)
      rw [tab_set] at o1
      rw [tab_congr (g := fun j => if j < k + 1 then (j : Int) else 0) (fun j hj => by
        by_cases e : j = k
        · subst e
          rw [if_pos rfl, if_pos (by omega)]
        · rw [if_neg e]
          by_cases e2 : j < k
          · rw [if_pos e2, if_pos (by omega)]
          · rw [if_neg e2, if_neg (by omega)])] at o1
      have hb2 := hb.grown g1 hsz (fun k hk => by injection hk with hk; omega)
      have hx2 := g1.cell hx (by intro e; have e : some w.heap.size = some (w.heap.size + 1) := e; injection e with e; omega)
      have hl2 : w.heap.size < (wr.setCell ⟨w.heap.size + 1, k, none⟩ (.int .i64 k)).heap.size := by simpa using hlt0
      have HO := hide o1
      have HB2 := hide hb2
      have HX2 := hide hx2
      have HL2 := hide hl2
      clear o1 g1 hb2 hx2 hl2 hS
      go_wp2_with fail
      go_roundw
      case rel => exact ⟨k + 1, hlt, by go_num, HO.out, HB2.out, HX2.out, HL2.out⟩
      case measure => simp [intOf]; omega
    · obtain rfl : k = xs.length := by omega
      have hS1 : IntSl wr w.heap.size (.slice (some ⟨w.heap.size + 1, 0, none⟩) xs.length xs.length) (iotaI xs.length) := by
        rw [iotaI, tab_congr (g := fun j => if j < xs.length then (j : Int) else 0) (fun j hj => by rw [if_pos hj])]
        exact hS
      have hKK : KeyK wr (w.heap.size + 1) xs.length 95 #[.pointer (some ⟨w.heap.size, 0, none⟩)] (negKey xs) :=
        gfKey_any wr (w.heap.size + 1) w.heap.size c xs.length A xs rfl (hA.below hb) (fun a ha => by have := hAn a ha; omega) hx (by omega) HB
      have HSR := hide (sortBy_any w.heap.size (w.heap.size + 1) xs.length xs.length 95 (iotaI xs.length) (negKey xs) #[.pointer (some ⟨w.heap.size, 0, none⟩)] wr (iotaI_len _) hl (hide (fun x hx => iotaI_mem.1 hx)) hS1
        (enters_of Tryd.func95 (by kernel_rfl) rfl) (hide hKK))
      clear hS hS1 hKK
      go_wp2_with fail
      refine HSR.out.mono ?_
      rintro e w1 ⟨rfl, hS2, hg⟩
      have hb2 : Below w.heap.size w w1 := hb.grown hg hsz (fun k hk => by injection hk with hk; omega)
      clear hmf
      go_wp2_with fail
      refine bodyPost_ret (results_tmp rfl _ _ _) rfl ⟨_, _, rfl, hS2, hb2⟩
end Go.Proofs.YteocmjffjinphaaDoor
