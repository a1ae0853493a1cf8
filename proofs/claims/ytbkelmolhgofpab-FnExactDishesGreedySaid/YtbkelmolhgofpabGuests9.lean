/- Guests9: contracts of DishesGreedy, of the program and of the reference model.
   Conditions: lists have at most 1048576 elements. -/
import Derived.Test.YtbkelmolhgofpabGuestMath3
import Derived.Test.YtbkelmolhgofpabGuests5
import Derived.Test.YtbkelmolhgofpabPush
namespace Go.Proofs.Ytbkelmolhgofpab
open Go.RowKit Go.ChangeShapes Go.WideShapes Go.ChangeAt Go.Deep

theorem or_more_all : ∀ x y : Fin 64, 0 < sz (dropI y.val x.val) → x.val < (orI x.val y.val).toNat := by decide +kernel
theorem or_more {x y : Int} (h0 : 0 ≤ x) (h1 : x < 64) (k0 : 0 ≤ y) (k1 : y < 64) (h : 0 < sz (dropI y x)) : x < orI x y := by
  have := or_more_all ⟨x.toNat, by omega⟩ ⟨y.toNat, by omega⟩ (by simpa only [Int.toNat_of_nonneg h0, Int.toNat_of_nonneg k0] using h)
  simp only [Int.toNat_of_nonneg h0, Int.toNat_of_nonneg k0] at this
  omega

theorem l1Meet64_any (a b : Int) (w : World) (h0 : 0 ≤ a) (h1 : a < 64) (h2 : 0 ≤ b) (h3 : b < 64) :
    Calls Try.prog 46 #[.int .i64 a, .int .i64 b] w fun e w' => e = .returned (.int .i64 (meetI a b)) ∧ w' = w := by
  have ho := orI_lt (a := a) (b := b) (by omega) (by omega)
  go_enter Try.func46, Try.ntmps46
  go_wp2_with fail
  refine (l1Join_any _ _ _ h0 h1 h2 h3).mono ?_
  rintro e w' ⟨rfl, rfl⟩
  go_wp2_with fail
  go_ret
  exact ⟨rfl, rfl⟩

theorem l6Count_is (s : Int) (w : World) (h0 : 0 ≤ s) (h1 : s ≤ 9223372036854775807) :
    Calls Try.prog 43 #[.int .i64 s] w fun e w' => e = .returned (.int .i64 (sz s)) ∧ w' = w := (l6Count_any s w h0 h1).mono fun _ _ h => ⟨h.1, h.2.symm⟩

set_option maxHeartbeats 1000000 in
theorem dishForMost_any (A : Option Addr) (c : Nat) (m : List Int) (fed : Int) (w : World) (hA : IntsAt w A m) (hl : m.length ≤ 6) (HX : Hid (∀ x ∈ m, 0 ≤ x ∧ x < 64)) (h0 : 0 ≤ fed) (h1 : fed < 64) :
    Calls Try.prog 48 #[.slice A m.length c, .int .i64 fed] w fun e w' => e = .returned (.int .i64 (bestL m fed)) ∧ w = w' := by
  go_enter Try.func48, Try.ntmps48
  go_wp2_with fail
  go_loopw [5, 6, 12] (fun bv mv i wr => ∃ (k : Nat) (b mo : Int), k ≤ m.length ∧ i = .int .i64 k ∧ bv = .int .i64 b ∧ mv = .int .i64 mo ∧ 0 ≤ mo ∧ mo ≤ 64 ∧ Hid (bestL m fed = (bestGo fed k (m.drop k) b mo).1) ∧ w = wr) (fun _ _ i _ => m.length - (intOf i).toNat)
  case atStart => exact ⟨0, -1, 0, Nat.zero_le _, rfl, rfl, rfl, by omega, by omega, hide rfl, rfl⟩
  case round =>
    obtain ⟨k, b, mo, hk, rfl, rfl, rfl, hm0, hm1, HG, rfl⟩ := hrel
    by_cases hlt : k < m.length
    · obtain ⟨ab, off, rfl, hbl, hc1⟩ := hA k m[k] (List.getElem?_eq_getElem hlt)
      have HE : Hid (m.drop k = m[k] :: m.drop (k + 1)) := hide (List.drop_eq_getElem_cons hlt)
      have hx := HX.out m[k] (List.getElem_mem hlt)
      generalize m[k] = p at *
      have hd := drop_range hx.1 hx.2 h0 h1
      have hw : bits .andNot .i64 p fed = dropI p fed := andNot_all' hx.1 hx.2 h0 h1
      have hz := sz_range hd.1 (by omega)
      have HC := hide (fun W => sizeOf_any (dropI p fed) W hd.1 (by omega))
      have HSTEP : Hid (bestL m fed = (if mo < sz (dropI p fed) then bestGo fed ((k + 1 : Nat) : Int) (m.drop (k + 1)) k (sz (dropI p fed)) else bestGo fed ((k + 1 : Nat) : Int) (m.drop (k + 1)) b mo).1) := hide (by rw [HG.out, HE.out, bestGo]; rfl)
      clear hx hd
      generalize sz (dropI p fed) = z at *
      generalize dropI p fed = d at *
      have hk0 : (0 : Int) ≤ k := by omega
      have hk1 : (k : Int) < m.length := by omega
      by_cases hlz : mo < z
      · have H3 : Hid (bestL m fed = (bestGo fed ((k + 1 : Nat) : Int) (m.drop (k + 1)) k z).1) := hide (by rw [HSTEP.out, if_pos hlz])
        go_wp2_with fail
        refine (HC.out _).mono ?_
        rintro e w1 ⟨rfl, rfl⟩
        go_wp2_with fail
        go_roundw
        case rel => exact ⟨k + 1, k, z, hlt, by go_num, rfl, rfl, hz.1, by omega, H3, trivial⟩
        case measure => simp [intOf]; omega
      · have H3 : Hid (bestL m fed = (bestGo fed ((k + 1 : Nat) : Int) (m.drop (k + 1)) b mo).1) := hide (by rw [HSTEP.out, if_neg hlz])
        go_wp2_with fail
        refine (HC.out _).mono ?_
        rintro e w1 ⟨rfl, rfl⟩
        go_wp2_with fail
        go_roundw
        case rel => exact ⟨k + 1, b, mo, hlt, by go_num, rfl, rfl, hm0, hm1, H3, trivial⟩
        case measure => simp [intOf]; omega
    · have H3 : Hid (bestL m fed = b) := hide (by rw [HG.out, List.drop_of_length_le (by omega)]; rfl)
      go_wp2_with fail
      go_ret
      exact ⟨by rw [H3.out]; rfl, rfl⟩

theorem greedy_no {g : Int} {m : List Int} (h : menuOk g m = false) : greedyL g m = [] := by unfold greedyL; rw [h]; rfl
/-- What is known of a round: how many rounds may follow, and where they lead. -/
theorem greedy_step {m : List Int} {f : Nat} {fed : Int} (hX : ∀ x ∈ m, 0 ≤ x ∧ x < 64) (h0 : 0 ≤ fed) (h1 : fed < 64) (hf : 7 ≤ (f : Int) + sz fed) :
    (bestL m fed < 0 ∧ greedyGo m f fed = []) ∨ ∃ (j f' : Nat) (e : Int), f = f' + 1 ∧ bestL m fed = j ∧ m[j]? = some e ∧ greedyGo m f fed = (j : Int) :: greedyGo m f' (orI fed e) ∧ 7 ≤ (f' : Int) + sz (orI fed e) ∧ fed < orI fed e := by
  have hz := sz_range h0 h1
  obtain ⟨f', rfl⟩ : ∃ f', f = f' + 1 := ⟨f - 1, by omega⟩
  rcases bestL_at m fed with h | ⟨j, e, he, hl, hj⟩
  · refine .inl ⟨by omega, ?_⟩
    unfold greedyGo
    rw [if_pos (by omega)]
  · have hx := hX e (List.mem_of_getElem? he)
    have hs := sz_or h0 h1 hx.1 hx.2
    refine .inr ⟨j, f', e, rfl, hj, he, ?_, by omega, or_more h0 h1 hx.1 hx.2 hl⟩
    rw [greedyGo, if_neg (by omega), hj, Int.toNat_natCast, getD_at he]

set_option maxRecDepth 100000 in
set_option maxHeartbeats 2000000 in
theorem implDishesGreedy_any (g : Int) (A : Option Addr) (c : Nat) (m : List Int) (w : World) (hA : IntsAt w A m) (hl : m.length ≤ 1048576) :
    Calls Try.prog 26 #[.int .i64 g, .slice A m.length c] w fun e w' => ∃ v, e = .returned v ∧ IntSl w' w.heap.size v (greedyL g m) ∧ Below w.heap.size w w' := by
  cases hM : menuOk g m with
  | false =>
    have HM := hide hM
    have HR := hide (greedy_no hM)
    clear hM
    go_enter Try.func26, Try.ntmps26
    go_wp2_with fail
    refine (implMenuValid_any _ _ _ _ _ hA hl).mono ?_
    rintro e w1 ⟨rfl, hB1⟩
    rw [HM.out]
    go_wp2_with fail
    refine bodyPost_ret (results_tmp rfl _ _ _) rfl ⟨.slice none 0 0, rfl, by rw [HR.out]; exact World.ownsRow_nil _ _ _ _, hB1⟩
  | true =>
    have HM := hide hM
    have h6 := menuOk_len hM
    have HX : Hid (∀ x ∈ m, 0 ≤ x ∧ x < 64) := hide (fun x hx => ⟨(menuOk_at hM hx).1, (menuOk_at hM hx).2.2⟩)
    have HR : Hid (greedyL g m = greedyGo m 7 0) := hide (by unfold greedyL; rw [if_pos hM])
    have HZ : Hid (∀ _ : Unit, sz 0 = 0) := hide (fun _ => by decide +kernel)
    clear hM
    go_enter Try.func26, Try.ntmps26
    go_wp2_with fail
    refine (implMenuValid_any _ _ _ _ _ hA hl).mono ?_
    rintro e w1 ⟨rfl, hB1⟩
    rw [HM.out]
    have hszB := hB1.size
    go_wp2_with fail
    go_loopw [5, 6] (fun ov fv wr => ∃ (f : Nat) (fed : Int) (out : List Int), fv = .int .i64 fed ∧ 0 ≤ fed ∧ fed < 64 ∧ Hid (out.length + f = 7) ∧ Hid (∀ _ : Unit, 7 ≤ (f : Int) + sz fed) ∧ Hid (greedyL g m = out ++ greedyGo m f fed) ∧ IntSl wr w.heap.size ov out ∧ Below w.heap.size w wr) (fun _ fv _ => (64 - intOf fv).toNat)
    case atStart => exact ⟨7, 0, [], rfl, by omega, by omega, hide rfl, hide (fun _ => by rw [HZ.out ()]; omega), HR, World.ownsRow_nil _ _ _ _, hB1⟩
    case round =>
      obtain ⟨f, fed, out, rfl, hf0, hf1, HOL, HF, HG, hS, hb⟩ := hrel
      have hol : out.length ≤ 7 := by have := HOL.out; omega
      have hsz := hb.size
      have HC := hide (dishForMost_any A c m fed wr (hA.below hb) h6 HX hf0 hf1)
      rcases greedy_step HX.out hf0 hf1 (HF.out ()) with ⟨hneg, he⟩ | ⟨j, f', e, rfl, hj, hme, he, hf', hmore⟩
      · have H3 : Hid (greedyL g m = out) := hide (by rw [HG.out, he, List.append_nil])
        have HS := hide hS
        generalize bestL m fed = b at *
        clear he hS
        go_wp2_with fail
        refine (HC.out).mono ?_
        rintro e w2 ⟨rfl, rfl⟩
        go_wp2_with fail
        refine bodyPost_ret (results_tmp rfl _ _ _) rfl ⟨_, rfl, by rw [H3.out]; exact HS.out, hb⟩
      · have H3 : Hid (greedyL g m = (out ++ [(j : Int)]) ++ greedyGo m f' (orI fed e)) := hide (by rw [HG.out, he, List.append_assoc]; rfl)
        have HF2 := hide (fun _ : Unit => hf')
        have hx := HX.out e (List.mem_of_getElem? hme)
        have hx0 : 0 ≤ e := hx.1
        have hx1 : e < 64 := hx.2
        have HO := hide (or_all' fed e hf0 hf1 hx0 hx1)
        have ho := orI_lt hf1 hx1
        have hjl : j < m.length := (List.getElem?_eq_some_iff.1 hme).1
        have hj0 : (0 : Int) ≤ j := by omega
        have hj1 : (j : Int) < m.length := by omega
        have HME := hide hme
        have HLEN : Hid ((out ++ [(j : Int)]).length + f' = 7) := hide (by rw [List.length_append]; have := HOL.out; simp; omega)
        rw [hj] at HC
        have HSA := hide (World.ownsRow.alloc hS (.cells #[.int .i64 j] 3))
        have HBA := hide (hb.alloc hsz (.cells #[.int .i64 j] 3))
        have HLT := hide (World.ownsRow.lt hS)
        obtain ⟨b2, off2, rfl, hbl2, -⟩ := hA j e hme
        clear he hS hx hj hme hf'
        go_wp2_with fail
        refine (HC.out).mono ?_
        rintro e' w2 ⟨rfl, rfl⟩
        go_wp2_with (at_builtin; refine wpList_push_int rfl _ _ rfl w.heap.size u5 out rfl HSA.out wr.heap.size (j : Int) rfl (heap_alloc_new wr _) (by omega) (by simp; omega) ?_; intro g5 cap w5 hown hgrow hnew; have hb5 : Below w.heap.size w w5 := HBA.out.grown hgrow (by simp; omega) (fun k hk => (HLT.out k hk).1); have hcm := (hA.below hb5).cellOf HME.out; clear hgrow hnew)
        go_roundw
        case rel => exact ⟨f', orI fed e, out ++ [(j : Int)], by rw [HO.out], ho.1, ho.2, HLEN, HF2, H3, hown, hb5⟩
        case measure => rw [HO.out]; simp [intOf]; omega

set_option maxRecDepth 100000 in
set_option maxHeartbeats 4000000 in
theorem specDishesGreedy_any (g : Int) (A : Option Addr) (c : Nat) (m : List Int) (w : World) (hA : IntsAt w A m) (hl : m.length ≤ 1048576) :
    Calls Try.prog 25 #[.int .i64 g, .slice A m.length c] w fun e w' => ∃ v, e = .returned v ∧ IntSl w' w.heap.size v (greedyL g m) ∧ Below w.heap.size w w' := by
  have HO0 : Hid (IntSl (w.alloc (.cells #[] 3)) w.heap.size (.slice (some ⟨w.heap.size, 0, none⟩) 0 0) []) := hide (World.ownsRow_lit w #[] 0 (Nat.le_refl _) (by unfold maxLen; omega) rfl)
  have HBA0 : Hid (Below w.heap.size w (w.alloc (.cells #[] 3))) := hide (by go_grown)
  cases hM : menuOk g m with
  | false =>
    have HM := hide hM
    have HR := hide (greedy_no hM)
    clear hM
    go_enter Try.func25, Try.ntmps25
    go_wp2_with fail
    go_loopw [5, 6] (fun ov fv wr => ov = .slice (some ⟨w.heap.size, 0, none⟩) 0 0 ∧ fv = .int .i64 0 ∧ wr = w.alloc (.cells #[] 3)) (fun _ _ _ => 0)
    case atStart => exact ⟨rfl, rfl, rfl⟩
    case round =>
      obtain ⟨rfl, rfl, rfl⟩ := hrel
      go_wp2_with fail
      refine (specMenuValid_any _ _ _ _ _ (hA.below HBA0.out) hl).mono ?_
      rintro e w1 ⟨rfl, hB1⟩
      rw [HM.out]
      have HP1 := hide (IntSl.below HO0.out hB1)
      have hb1 := next HBA0.out hB1
      go_wp2_with fail
      refine bodyPost_ret (results_tmp rfl _ _ _) rfl ⟨_, rfl, by rw [HR.out]; exact HP1.out, hb1⟩
  | true =>
    have HM := hide hM
    have h6 := menuOk_len hM
    have HX : Hid (∀ x ∈ m, 0 ≤ x ∧ x < 64) := hide (fun x hx => ⟨(menuOk_at hM hx).1, (menuOk_at hM hx).2.2⟩)
    have HR : Hid (greedyL g m = greedyGo m 7 0) := hide (by unfold greedyL; rw [if_pos hM])
    have HZ : Hid (∀ _ : Unit, sz 0 = 0) := hide (fun _ => by decide +kernel)
    clear hM
    go_enter Try.func25, Try.ntmps25
    go_wp2_with fail
    go_loopw [5, 6] (fun ov fv wr => ∃ (f : Nat) (fed : Int) (out : List Int), fv = .int .i64 fed ∧ 0 ≤ fed ∧ fed < 64 ∧ Hid (out.length + f = 7) ∧ Hid (∀ _ : Unit, 7 ≤ (f : Int) + sz fed) ∧ Hid (greedyL g m = out ++ greedyGo m f fed) ∧ IntSl wr w.heap.size ov out ∧ Below w.heap.size w wr) (fun _ fv _ => (64 - intOf fv).toNat)
    case atStart => exact ⟨7, 0, [], rfl, by omega, by omega, hide rfl, hide (fun _ => by rw [HZ.out ()]; omega), HR, HO0.out, HBA0.out⟩
    case round =>
      clear HO0 HBA0
      obtain ⟨f, fed, out, rfl, hf0, hf1, HOL, HF, HG, hS, hb⟩ := hrel
      have hol : out.length ≤ 7 := by have := HOL.out; omega
      have HS := hide hS
      clear hS
      go_wp2_with fail
      refine (specMenuValid_any _ _ _ _ _ (hA.below hb) hl).mono ?_
      rintro e w1 ⟨rfl, hB1⟩
      rw [HM.out]
      have HS1 := hide (IntSl.below HS.out hB1)
      have hb1 := next hb hB1
      clear HS hb hB1
      go_wp2_with fail
      go_loopw [7, 8, 9] (fun bv mv i wr => ∃ (k : Nat) (b mo : Int), k ≤ m.length ∧ i = .int .i64 k ∧ bv = .int .i64 b ∧ mv = .int .i64 mo ∧ 0 ≤ mo ∧ mo ≤ 64 ∧ Hid (bestL m fed = (bestGo fed k (m.drop k) b mo).1) ∧ IntSl wr w.heap.size u5 out ∧ Below w.heap.size w wr) (fun _ _ i _ => m.length - (intOf i).toNat)
      case atStart => exact ⟨0, -1, 0, Nat.zero_le _, rfl, rfl, rfl, by omega, by omega, hide rfl, HS1.out, hb1⟩
      case round =>
        clear HS1 hb1
        obtain ⟨k, b, mo, hk, rfl, rfl, rfl, hm0, hm1, HB, hS, hb⟩ := hrel
        have hsz := hb.size
        by_cases hlt : k < m.length
        · obtain ⟨ab, off, rfl, hbl, hc1⟩ := (hA.below hb) k m[k] (List.getElem?_eq_getElem hlt)
          have HE : Hid (m.drop k = m[k] :: m.drop (k + 1)) := hide (List.drop_eq_getElem_cons hlt)
          have hx := HX.out m[k] (List.getElem_mem hlt)
          generalize m[k] = p at *
          have hd := drop_range hx.1 hx.2 hf0 hf1
          have hmt := meet_range hx.1 hx.2 hf0 hf1
          have hz := sz_range hd.1 (by omega)
          have hza := sz_range hx.1 hx.2
          have hzb := sz_range hmt.1 (by omega)
          have HSD := hide (sz_drop hx.1 hx.2 hf0 hf1)
          have HC1 := hide (fun W => l6Count_is p W hx.1 (by omega))
          have HC2 := hide (fun W => l6Count_is (meetI p fed) W hmt.1 (by omega))
          have HC3 := hide (fun W => l1Meet64_any p fed W hx.1 hx.2 hf0 hf1)
          have HSTEP : Hid (bestL m fed = (if mo < sz p - sz (meetI p fed) then bestGo fed ((k + 1 : Nat) : Int) (m.drop (k + 1)) k (sz p - sz (meetI p fed)) else bestGo fed ((k + 1 : Nat) : Int) (m.drop (k + 1)) b mo).1) := hide (by rw [HB.out, HE.out, bestGo, HSD.out]; rfl)
          rw [HSD.out] at hz
          clear hx hd hmt HSD
          generalize sz p = z1 at *
          generalize sz (meetI p fed) = z2 at *
          generalize meetI p fed = d at *
          have hw1 : IntKind.i64.wrap (z1 - z2) = z1 - z2 := IntWalk.i64_in _ (by omega)
          have hk0 : (0 : Int) ≤ k := by omega
          have hk1 : (k : Int) < m.length := by omega
          have HS := hide hS
          clear hS
          by_cases hlz : mo < z1 - z2
          · have H3 : Hid (bestL m fed = (bestGo fed ((k + 1 : Nat) : Int) (m.drop (k + 1)) k (z1 - z2)).1) := hide (by rw [HSTEP.out, if_pos hlz])
            go_wp2_with fail
            go_quiet (first | (go_at_call 43; first | (with_reducible exact Calls.quiet_of_same (HC1.out _)) | (with_reducible exact Calls.quiet_of_same (HC2.out _))) | (go_at_call 46; exact Calls.quiet_of_same (HC3.out _)))
            go_wp2_with fail
            go_roundw
            case rel => exact ⟨k + 1, k, z1 - z2, hlt, by go_num, rfl, rfl, hz.1, by omega, H3, IntSl.below HS.out (below_drewN (Below.refl _ _) _), below_drewN hb _⟩
            case measure => simp [intOf]; omega
          · have H3 : Hid (bestL m fed = (bestGo fed ((k + 1 : Nat) : Int) (m.drop (k + 1)) b mo).1) := hide (by rw [HSTEP.out, if_neg hlz])
            go_wp2_with fail
            go_quiet (first | (go_at_call 43; first | (with_reducible exact Calls.quiet_of_same (HC1.out _)) | (with_reducible exact Calls.quiet_of_same (HC2.out _))) | (go_at_call 46; exact Calls.quiet_of_same (HC3.out _)))
            go_wp2_with fail
            go_roundw
            case rel => exact ⟨k + 1, b, mo, hlt, by go_num, rfl, rfl, hm0, hm1, H3, IntSl.below HS.out (below_drewN (Below.refl _ _) _), below_drewN hb _⟩
            case measure => simp [intOf]; omega
        · have HBB : Hid (bestL m fed = b) := hide (by rw [HB.out, List.drop_of_length_le (by omega)]; rfl)
          rcases greedy_step HX.out hf0 hf1 (HF.out ()) with ⟨hneg, he⟩ | ⟨j, f', e, rfl, hj, hme, he, hf', hmore⟩
          · have H3 : Hid (greedyL g m = out) := hide (by rw [HG.out, he, List.append_nil])
            have hb0 : b < 0 := by rw [← HBB.out]; exact hneg
            have HS := hide hS
            clear he hS hneg
            go_wp2_with fail
            refine bodyPost_ret (results_tmp rfl _ _ _) rfl ⟨_, rfl, by rw [H3.out]; exact HS.out, hb⟩
          · obtain rfl : b = j := by rw [← HBB.out]; exact hj
            have H3 : Hid (greedyL g m = (out ++ [(j : Int)]) ++ greedyGo m f' (orI fed e)) := hide (by rw [HG.out, he, List.append_assoc]; rfl)
            have HF2 := hide (fun _ : Unit => hf')
            have hx := HX.out e (List.mem_of_getElem? hme)
            have hx0 : 0 ≤ e := hx.1
            have hx1 : e < 64 := hx.2
            have ho := orI_lt hf1 hx1
            have hjl : j < m.length := (List.getElem?_eq_some_iff.1 hme).1
            have hj0 : (0 : Int) ≤ j := by omega
            have hj1 : (j : Int) < m.length := by omega
            have HME := hide hme
            have HLEN : Hid ((out ++ [(j : Int)]).length + f' = 7) := hide (by rw [List.length_append]; have := HOL.out; simp; omega)
            have HSA := hide (World.ownsRow.alloc hS (.cells #[.int .i64 j] 3))
            have HBA := hide (hb.alloc hsz (.cells #[.int .i64 j] 3))
            have HLT := hide (World.ownsRow.lt hS)
            obtain ⟨b2, off2, rfl, hbl2, -⟩ := hA j e hme
            clear he hS hx hj hme hf'
            go_wp2_with (at_builtin; refine wpList_push_int rfl _ _ rfl w.heap.size u5 out rfl HSA.out wr.heap.size (j : Int) rfl (heap_alloc_new wr _) (by omega) (by simp; omega) ?_; intro g5 cap w5 hown hgrow hnew; have hb5 : Below w.heap.size w w5 := HBA.out.grown hgrow (by simp; omega) (fun k hk => (HLT.out k hk).1); have hcm := (hA.below hb5).cellOf HME.out; clear hgrow hnew)
            refine (l1Join_w _ _ _ hf0 hf1 hx0 hx1).mono ?_
            rintro e' w6 ⟨rfl, rfl⟩
            go_wp2_with fail
            go_roundw
            case rel => exact ⟨f', orI fed e, out ++ [(j : Int)], rfl, ho.1, ho.2, HLEN, HF2, H3, hown, hb5⟩
            case measure => simp [intOf]; omega
end Go.Proofs.Ytbkelmolhgofpab
