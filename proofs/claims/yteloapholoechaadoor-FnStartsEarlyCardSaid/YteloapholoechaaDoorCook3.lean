/- OrderOk: contracts of the program and of the reference model.
   Conditions: lists have at most 1048576 elements. -/
import Derived.Test.YteloapholoechaaDoorOrders0
import Derived.Test.YteloapholoechaaDoorStock
namespace Go.Proofs.YteloapholoechaaDoor
open Go.RowKit

theorem make_bools (n : Nat) (hn : n ≤ 1048576) (w : World) :
    (Instr.makeSlice 74 (.int .i64 (n : Int)) (.int .i64 (n : Int))).run Tryd.prog w = .ok (.slice (some ⟨w.heap.size, 0, none⟩) n n) (w.alloc (.cells (madeCells #[.bool false] n) 4)) :=
  run_make_row' 74 4 (.bool false) 1 Tryd.underlying74 (by kernel_rfl) rfl .i64 .i64 n (by omega) (by omega) w

theorem rangeOk_false_at' {m : Int} {xs : List Int} {i : Nat} {p : Int} (hp : xs[i]? = some p) (h : inR p 0 m = false) : rangeOk m xs = false := by
  unfold rangeOk
  cases e : xs.all (fun x => inR x 0 m) with
  | false => rfl
  | true => rw [List.all_eq_true.1 e p (List.mem_of_getElem? hp)] at h; cases h

theorem freshGo_step {seen : List Int} {x : Int} {r : List Int} : freshGo seen (x :: r) = (!(hasI seen x) && freshGo (seen ++ [x]) r) := rfl

theorem take_snoc {xs : List Int} {k : Nat} (h : k < xs.length) : xs.take (k + 1) = xs.take k ++ [xs[k]] := by rw [List.take_succ_eq_append_getElem h]

theorem hasI_snoc {xs : List Int} {x y : Int} : hasI (xs ++ [x]) y = (hasI xs y || (x == y)) := by simp [hasI, List.any_append]

theorem fresh_take {xs : List Int} {k : Nat} (h : k < xs.length) : freshGo (xs.take k) (xs.drop k) = (!(hasI (xs.take k) xs[k]) && freshGo (xs.take (k + 1)) (xs.drop (k + 1))) := by
  rw [List.drop_eq_getElem_cons h, freshGo_step, take_snoc h]

set_option maxHeartbeats 1000000 in
theorem implOrderOk_any (A : Option Addr) (c : Nat) (xs : List Int) (many : Int) (w : World) (hA : IntsAt w A xs) (hl : xs.length ≤ 1048576) :
    Calls Tryd.prog 24 #[.slice A xs.length c, .int .i64 many] w fun e w' => e = .returned (.bool (orderOkL xs many)) ∧ Below w.heap.size w w' := by
  by_cases hm : (xs.length : Int) = many
  · subst hm
    have hw1 : wrap64 ((xs.length : Int) - 1) = (xs.length : Int) - 1 := IntWalk.wrap64_in _ (by omega)
    cases hr : rangeOk ((xs.length : Int) - 1) xs with
    | false =>
      have H3 : Hid (orderOkL xs xs.length = false) := hide (by unfold orderOkL; rw [hr]; simp)
      have HQ := hide hr
      clear hr hw1
      go_enter Tryd.func24, Tryd.ntmps24
      go_wp2_with fail
      refine (allInRange_any _ _ _ _ _ _ hA hl).mono ?_
      rintro e w1 ⟨rfl, hB⟩
      rw [HQ.out, Bool.and_false]
      go_wp2_with fail
      go_ret
      exact ⟨by rw [H3.out]; rfl, hB⟩
    | true =>
      have HRG := hide hr
      have H3 : Hid (orderOkL xs xs.length = freshGo [] xs) := hide (by unfold orderOkL; rw [hr]; simp)
      have hmk := make_bools xs.length hl
      clear hr hw1
      go_enter Tryd.func24, Tryd.ntmps24
      go_wp2_with fail
      refine (allInRange_any _ _ _ _ _ _ hA hl).mono ?_
      rintro e w1 ⟨rfl, hB⟩
      rw [HRG.out, Bool.and_true, decide_eq_true rfl]
      have hsz1 := hB.size
      go_wp2_with fail
      clear hmk
      go_loopw [18] (fun i wr => ∃ k : Nat, k ≤ xs.length ∧ i = .int .i64 k ∧ Hid (freshGo [] xs = freshGo (xs.take k) (xs.drop k)) ∧ wr.rowIs w1.heap.size 4 xs.length (fun j => .bool (hasI (xs.take k) j)) ∧ Below w.heap.size w wr) (fun i _ => xs.length - (intOf i).toNat)
      case atStart => exact ⟨0, Nat.zero_le _, rfl, hide rfl, (World.rowIs_made _ _ _ _).congr (fun i hi => by simp [hasI]), by go_grown⟩
      case round =>
        obtain ⟨k, hk, rfl, HG, hrow, hb⟩ := hrel
        have hsz := hb.size
        by_cases hlt : k < xs.length
        · obtain ⟨b, off, rfl, hbl, hc1⟩ := (hA.below hb) k xs[k] (List.getElem?_eq_getElem hlt)
          have hx := rangeOk_at HRG.out (List.getElem?_eq_getElem hlt)
          have HF := hide (fresh_take hlt)
          have HT := hide (take_snoc hlt)
          generalize xs[k] = x at *
          obtain ⟨q, rfl⟩ : ∃ q : Nat, x = q := ⟨x.toNat, by omega⟩
          have hqn : q < xs.length := by omega
          have hq1 := hrow.cell hqn
          have hf := hrow.frozen
          have hglt := hrow.lt
          have hz : (0 : Int) ≤ k := by omega
          have hz2 : (k : Int) < xs.length := by omega
          have hz3 : (0 : Int) ≤ q := by omega
          have hz4 : (q : Int) < xs.length := by omega
          clear hx
          cases hh : hasI (xs.take k) q with
          | true =>
            have H4 : Hid (orderOkL xs xs.length = false) := hide (by rw [H3.out, HG.out, HF.out, hh]; rfl)
            rw [hh] at hq1
            go_wp2_with fail
            go_ret
            exact ⟨by rw [H4.out]; rfl, hb⟩
          | false =>
            have H4 : Hid (freshGo [] xs = freshGo (xs.take (k + 1)) (xs.drop (k + 1))) := hide (by rw [HG.out, HF.out, hh]; rfl)
            rw [hh] at hq1
            have HR2 := hide ((hrow.set q (.bool true)).congr (g := fun j => .bool (hasI (xs.take (k + 1)) j)) (fun j hj => by
              rw [HT.out, hasI_snoc]
              by_cases e : j = q
              · subst e
                simp
              · rw [if_neg e, show ((q : Int) == (j : Int)) = false from (by simp; omega), Bool.or_false]))
            have hb2 : Below w.heap.size w (wr.setCell ⟨w1.heap.size, q, none⟩ (.bool true)) := by go_grown
            clear hrow
            go_wp2_with fail
            go_roundw
            case rel => exact ⟨k + 1, hlt, by go_num, H4, HR2.out, hb2⟩
            case measure => simp [intOf]; omega
        · have H4 : Hid (orderOkL xs xs.length = true) := hide (by rw [H3.out, HG.out, List.drop_of_length_le (by omega)]; rfl)
          go_wp2_with fail
          go_ret
          exact ⟨by rw [H4.out]; rfl, hb⟩
  · have H3 : Hid (orderOkL xs many = false) := hide (by unfold orderOkL; rw [decide_eq_false hm]; rfl)
    have HQ : Hid ((decide ((xs.length : Int) = many) && rangeOk (wrap64 (many - 1)) xs) = false) := hide (by rw [decide_eq_false hm]; rfl)
    go_enter Tryd.func24, Tryd.ntmps24
    go_wp2_with fail
    refine (allInRange_any _ _ _ _ _ _ hA hl).mono ?_
    rintro e w1 ⟨rfl, hB⟩
    rw [HQ.out]
    go_wp2_with fail
    go_ret
    exact ⟨by rw [H3.out]; rfl, hB⟩

set_option maxHeartbeats 1000000 in
theorem specOrderOk_any (A : Option Addr) (c : Nat) (xs : List Int) (many : Int) (w : World) (hA : IntsAt w A xs) (hl : xs.length ≤ 1048576) (hc : xs.length ≤ c) :
    Calls Tryd.prog 62 #[.slice A xs.length c, .int .i64 many] w fun e w' => e = .returned (.bool (orderOkL xs many)) ∧ Below w.heap.size w w' := by
  have HM : Hid ((xs.length : Int) = many → wrap64 (many - 1) = many - 1) := hide (fun h => IntWalk.wrap64_in _ (by omega))
  obtain ⟨m, hm1⟩ : ∃ m, wrap64 (many - 1) = m := ⟨_, rfl⟩
  have HM1 := hide hm1
  go_enter Tryd.func62, Tryd.ntmps62
  go_wp2_with fail
  go_loopw [5] (fun i wr => ∃ k : Nat, k ≤ xs.length ∧ i = .int .i64 k ∧ Hid (rangeOk m xs = rangeOk m (xs.drop k)) ∧ Hid (freshGo [] xs = freshGo (xs.take k) (xs.drop k)) ∧ Below w.heap.size w wr) (fun i _ => xs.length - (intOf i).toNat)
  case atStart => exact ⟨0, Nat.zero_le _, rfl, hide rfl, hide rfl, by go_grown⟩
  case round =>
    obtain ⟨k, hk, rfl, HG, HF0, hb⟩ := hrel
    have hsz := hb.size
    by_cases hlt : k < xs.length
    · have hAk : IntsAt wr A (xs.take k) := fun i x hx => (hA.below hb) i x (by
        rw [List.getElem?_take] at hx
        split at hx
        · exact hx
        · cases hx)
      have hkl : (xs.take k).length = k := by rw [List.length_take]; omega
      obtain ⟨b', off, rfl, hbl, hc1⟩ := (hA.below hb) k xs[k] (List.getElem?_eq_getElem hlt)
      have HX := hide (List.getElem?_eq_getElem hlt)
      have HD : Hid (xs.drop k = xs[k] :: xs.drop (k + 1)) := hide (List.drop_eq_getElem_cons hlt)
      have HF := hide (fresh_take hlt)
      generalize xs[k] = p at *
      have hh : ∀ (N c' : Nat), Calls Tryd.prog 95 #[.slice (some ⟨b', off, none⟩) k c', .int .i64 p] (wr.drewN N) fun e w' => e = .returned (.bool (hasI (xs.take k) p)) ∧ w' = wr.drewN N := fun N c' => by
        have := l1Has_any (some ⟨b', off, none⟩) c' (xs.take k) p (wr.drewN N) hAk (by omega)
        rw [hkl] at this
        exact this
      have hz : (0 : Int) ≤ k := by omega
      have hz2 : (k : Int) < xs.length := by omega
      have hz3 : (k : Int) ≤ c := by omega
      clear hAk hkl
      cases hp : inR p 0 m with
      | false =>
        have HQ := hide hp
        have H3 : Hid (orderOkL xs many = false) := hide (by
          unfold orderOkL
          by_cases hq : (xs.length : Int) = many
          · have e := HM.out hq
            rw [← HM1.out, e] at hp
            rw [rangeOk_false_at' HX.out hp]
            simp
          · rw [decide_eq_false hq]
            rfl)
        clear hp
        go_wp2_with fail
        go_quiet ((go_at_call 70; exact Calls.quiet_of_same (l1In_is _ _ _ _ HQ _)))
        go_wp2_with fail
        go_ret
        exact ⟨by rw [H3.out]; rfl, ⟨hb.os, hb.tape, hb.output, hb.size, hb.block⟩⟩
      | true =>
        have HQ := hide hp
        cases hhas : hasI (xs.take k) p with
        | true =>
          have H3 : Hid (orderOkL xs many = false) := hide (by unfold orderOkL; rw [HF0.out, HF.out, hhas]; simp)
          rw [hhas] at hh
          clear hp
          go_wp2_with fail
          go_quiet (first | (go_at_call 70; exact Calls.quiet_of_same (l1In_is _ _ _ _ HQ _)) | (go_at_call 95; exact Calls.quiet_of_same (hh _ _)))
          go_wp2_with fail
          go_ret
          exact ⟨by rw [H3.out]; rfl, ⟨hb.os, hb.tape, hb.output, hb.size, hb.block⟩⟩
        | false =>
          have H3 : Hid (rangeOk m xs = rangeOk m (xs.drop (k + 1))) := hide (by rw [HG.out, HD.out]; unfold rangeOk; rw [List.all_cons, hp]; rfl)
          have H4 : Hid (freshGo [] xs = freshGo (xs.take (k + 1)) (xs.drop (k + 1))) := hide (by rw [HF0.out, HF.out, hhas]; rfl)
          rw [hhas] at hh
          clear hp
          go_wp2_with fail
          go_quiet (first | (go_at_call 70; exact Calls.quiet_of_same (l1In_is _ _ _ _ HQ _)) | (go_at_call 95; exact Calls.quiet_of_same (hh _ _)))
          go_wp2_with fail
          go_roundw
          case rel => exact ⟨k + 1, hlt, by go_num, H3, H4, ⟨hb.os, hb.tape, hb.output, hb.size, hb.block⟩⟩
          case measure => simp [intOf]; omega
    · have HT : Hid (rangeOk m xs = true) := hide (by rw [HG.out, List.drop_of_length_le (by omega)]; rfl)
      have HT2 : Hid (freshGo [] xs = true) := hide (by rw [HF0.out, List.drop_of_length_le (by omega)]; rfl)
      have H3 : Hid (orderOkL xs many = ((xs.length : Int) == many)) := hide (by
        unfold orderOkL
        rw [HT2.out, Bool.and_true]
        by_cases hq : (xs.length : Int) = many
        · have e := HM.out hq
          rw [HM1.out] at e
          rw [← e, HT.out, decide_eq_true hq]
          simpa using hq
        · rw [decide_eq_false hq]
          simpa using hq)
      go_wp2_with fail
      go_ret
      exact ⟨by rw [H3.out]; rfl, hb⟩
end Go.Proofs.YteloapholoechaaDoor
