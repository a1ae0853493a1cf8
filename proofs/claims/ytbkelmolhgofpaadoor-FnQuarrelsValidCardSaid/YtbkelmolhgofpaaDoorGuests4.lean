/- Guests4: those who share a dish with a guest; ApartValid of the program.
   Conditions: lists have at most 1048576 elements. -/
import Derived.Test.YtbkelmolhgofpaaDoorGuests3
namespace Go.Proofs.YtbkelmolhgofpaaDoor
open Go.RowKit Go.ChangeShapes Go.WideShapes Go.ChangeAt Go.Deep

set_option maxRecDepth 100000 in
set_option maxHeartbeats 2000000 in
theorem sharersOf_any (g : Int) (A : Option Addr) (c : Nat) (m : List Int) (w : World) (hA : IntsAt w A m) (hl : m.length ≤ 6) (HX : Hid (∀ x ∈ m, 0 ≤ x ∧ x < 64)) (h0 : 0 ≤ g) (h1 : g ≤ 6) :
    Calls Tryd.prog 69 #[.int .i64 g, .slice A m.length c] w fun e w' => ∃ v, e = .returned v ∧ IntSl w' w.heap.size v (sharersL g m) ∧ Below w.heap.size w w' := by
  obtain ⟨n, rfl⟩ := Int.eq_ofNat_of_zero_le h0
  have hn : n ≤ 6 := by omega
  have hmk := make_ints n (by omega)
  have HR : Hid (sharersL n m = tab n (fun i => shGo i m 0)) := hide rfl
  have HZ0 := hide (fun (W : World) => zeros_tabG W (lo := W.heap.size) n (Nat.le_refl _) (by omega))
  go_enter Tryd.func69, Tryd.ntmps69
  go_wp2_with fail
  clear hmk
  have HS0 := HZ0.out w
  go_loopw [13] (fun i wr => ∃ (k : Nat), k ≤ n ∧ i = .int .i64 k ∧ IntSl wr w.heap.size (.slice (some ⟨w.heap.size, 0, none⟩) n n) (tab n (fun j => if j < k then shGo j m 0 else 0)) ∧ w.heap.size < wr.heap.size ∧ Below w.heap.size w wr) (fun i _ => n - (intOf i).toNat)
  case atStart => exact ⟨0, Nat.zero_le _, rfl, by rw [show tab n (fun j => if j < 0 then shGo j m 0 else 0) = tab n (fun _ => 0) from tab_congr (fun j _ => by simp)]; exact HS0, by simp, by go_grown⟩
  case round =>
    obtain ⟨k, hk, rfl, hS, hlt0, hb⟩ := hrel
    have hsz := hb.size
    by_cases hlt : k < n
    · have hz : (0 : Int) ≤ k := by omega
      have hz2 : (k : Int) < n := by omega
      have hz3 : (k : Int) < 6 := by omega
      have HS := hide hS
      clear hS
      go_wp2_with fail
      obtain ⟨wo, rfl⟩ : ∃ wo : World, wo = wr := ⟨_, rfl⟩
      go_loopw [18] (fun i wr => ∃ (j : Nat) (s : Int), j ≤ m.length ∧ i = .int .i64 j ∧ 0 ≤ s ∧ s < 64 ∧ Hid (shGo k m 0 = shGo k (m.drop j) s) ∧ IntSl wr w.heap.size (.slice (some ⟨w.heap.size, 0, none⟩) n n) (tab n (fun i => if i = k then s else if i < k then shGo i m 0 else 0)) ∧ w.heap.size < wr.heap.size ∧ Below w.heap.size w wr) (fun i _ => m.length - (intOf i).toNat)
      case atStart => exact ⟨0, 0, Nat.zero_le _, rfl, by omega, by omega, hide rfl, by rw [show tab n (fun i => if i = k then (0 : Int) else if i < k then shGo i m 0 else 0) = tab n (fun j => if j < k then shGo j m 0 else 0) from tab_congr (fun j _ => by by_cases e : j = k <;> simp [e])]; exact HS.out, hlt0, hb⟩
      case round =>
        obtain ⟨j, s, hj, rfl, hs0, hs1, HG, hS2, hlt2, hb2⟩ := hrel
        have hsz2 := hb2.size
        by_cases hjl : j < m.length
        · obtain ⟨b, off, rfl, hbl, hc1⟩ := (hA.below hb2) j m[j] (List.getElem?_eq_getElem hjl)
          have HE : Hid (m.drop j = m[j] :: m.drop (j + 1)) := hide (List.drop_eq_getElem_cons hjl)
          have hx := HX.out m[j] (List.getElem_mem hjl)
          generalize m[j] = p at *
          have hx0 : 0 ≤ p := hx.1
          have hx1 : p < 64 := hx.2
          clear hx
          have hy : (0 : Int) ≤ j := by omega
          have hy2 : (j : Int) < m.length := by omega
          cases hh : hasB p k with
          | false =>
            have HH := hide hh
            have H3 : Hid (shGo k m 0 = shGo k (m.drop (j + 1)) s) := hide (by rw [HG.out, HE.out, shGo, hh]; rfl)
            have HS2 := hide hS2
            clear hh hS2
            go_wp2_with fail
            refine (inSet_w _ _ _ hx0 hx1 hz hz3 false (by rw [Int.toNat_natCast]; exact HH)).mono ?_
            rintro e w3 ⟨rfl, rfl⟩
            go_wp2_with fail
            go_roundw
            case rel => exact ⟨j + 1, s, hjl, by go_num, hs0, hs1, H3, HS2.out, hlt2, hb2⟩
            case measure => simp [intOf]; omega
          | true =>
            have HH := hide hh
            have hpw := pow_range k (by omega)
            have hd := drop_range hx0 hx1 (y := 2 ^ k) (by omega) hpw.2
            have ho := orI_lt (b := dropI p (2 ^ k)) hs1 (by omega)
            have hw1 : IntKind.i64.wrap (2 ^ k) = 2 ^ k := IntWalk.i64_in _ (by omega)
            have hw2 : bits .andNot .i64 p (2 ^ k) = dropI p (2 ^ k) := andNot_all' hx0 hx1 (by omega) hpw.2
            have hw3 : bits .or .i64 s (dropI p (2 ^ k)) = orI s (dropI p (2 ^ k)) := or_all' _ _ hs0 hs1 hd.1 (by omega)
            have H3 : Hid (shGo k m 0 = shGo k (m.drop (j + 1)) (orI s (dropI p (2 ^ k)))) := hide (by rw [HG.out, HE.out, shGo, hh]; rfl)
            have hcell := hS2.cellAt (tab_at (f := fun i => if i = k then s else if i < k then shGo i m 0 else 0) hlt)
            rw [if_pos rfl] at hcell
            have hfz := hS2.frozenAt k
            have HN : Hid (IntSl (wr.setCell ⟨w.heap.size, k, none⟩ (.int .i64 (orI s (dropI p (2 ^ k))))) w.heap.size (.slice (some ⟨w.heap.size, 0, none⟩) n n) (tab n (fun i => if i = k then orI s (dropI p (2 ^ k)) else if i < k then shGo i m 0 else 0))) := hide (by
              have := IntSl.store hS2 k (orI s (dropI p (2 ^ k)))
              rw [tab_set] at this
              rw [show tab n (fun i => if i = k then orI s (dropI p (2 ^ k)) else if i < k then shGo i m 0 else 0) = tab n (fun i => if i = k then orI s (dropI p (2 ^ k)) else if i = k then s else if i < k then shGo i m 0 else 0) from tab_congr (fun i _ => by by_cases e : i = k <;> simp [e])]
              exact this)
            have HB5 := hide (hb2.grown (IntSl.grownSet hS2 k (orI s (dropI p (2 ^ k)))) hsz2 (fun k hk => by injection hk with hk; omega))
            clear hh hS2
            go_wp2_with fail
            refine (inSet_w _ _ _ hx0 hx1 hz hz3 true (by rw [Int.toNat_natCast]; exact HH)).mono ?_
            rintro e w3 ⟨rfl, rfl⟩
            go_wp2_with fail
            refine still_tail_drew 10 (by kernel_rfl) (by kernel_rfl) ?_
            simp only [List.take_succ_cons, List.take_zero, List.drop_succ_cons, List.drop_zero]
            repeat still_step
            refine wpStill_nil ?_
            go_wp2_with fail
            go_roundw
            case rel => exact ⟨j + 1, _, hjl, by go_num, ho.1, ho.2, H3, IntSl.drew HN.out, by simp; exact hlt2, HB5.out.drew⟩
            case measure => simp [intOf]; omega
        · have H3 : Hid (shGo k m 0 = s) := hide (by rw [HG.out, List.drop_of_length_le (by omega)]; rfl)
          have HN : Hid (IntSl wr w.heap.size (.slice (some ⟨w.heap.size, 0, none⟩) n n) (tab n (fun j => if j < k + 1 then shGo j m 0 else 0))) := hide (by
            rw [show tab n (fun j => if j < k + 1 then shGo j m 0 else 0) = tab n (fun i => if i = k then s else if i < k then shGo i m 0 else 0) from tab_congr (fun i _ => by
              by_cases e : i = k
              · subst e; rw [if_pos (by omega), if_pos rfl, H3.out]
              · rw [if_neg e]
                by_cases e2 : i < k
                · rw [if_pos e2, if_pos (by omega)]
                · rw [if_neg e2, if_neg (by omega)])]
            exact hS2)
          clear hS2
          go_wp2_with fail
          go_roundw
          case rel => exact ⟨k + 1, hlt, by go_num, HN.out, hlt2, hb2⟩
          case measure => simp [intOf]; omega
    · have HN : Hid (IntSl wr w.heap.size (.slice (some ⟨w.heap.size, 0, none⟩) n n) (sharersL n m)) := hide (by
        rw [HR.out, show tab n (fun i => shGo i m 0) = tab n (fun j => if j < k then shGo j m 0 else 0) from tab_congr (fun i hi => by rw [if_pos (by omega)])]
        exact hS)
      clear hS
      go_wp2_with fail
      exact bodyPost_ret (results_tmp rfl _ _ _) rfl ⟨.slice (some ⟨w.heap.size, 0, none⟩) n n, rfl, HN.out, hb⟩
end Go.Proofs.YtbkelmolhgofpaaDoor
