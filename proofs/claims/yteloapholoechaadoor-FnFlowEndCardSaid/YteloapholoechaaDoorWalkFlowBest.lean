/- For all drawn bytes the law of FlowBest answers true, and its argument reads as it did.
   Conditions: none. -/
import Derived.Test.YteloapholoechaaDoorWalkFlowLeast
import Derived.Test.YteloapholoechaaDoorLists
import Derived.Deep.DeepCutAuto
namespace Go.Proofs.YteloapholoechaaDoor
open Go.RowKit Go.ChangeShapes Go.WideShapes Go.ChangeAt

theorem implFlowEnd_at (A B : Option Addr) (c d n : Nat) (l : List Dish) (ord : List Int) (v : Int) (w : World) (hn : ord.length = n) (hv : Hid (flowEndL l ord = v)) (hA : DishesAt w A l) (hl : l.length ≤ 1048576) (hB : IntsAt w B ord) (hm : n ≤ 1048576) :
    Calls Tryd.prog 15 #[.slice A l.length c, .slice B n d] w fun e w' => e = .returned (.int .i64 v) ∧ Below w.heap.size w w' := by
  subst hn
  have := implFlowEnd_any A B c d l ord w hA hl hB hm
  rwa [hv.out] at this

set_option maxRecDepth 100000 in
set_option maxHeartbeats 4000000 in
theorem lawFlowBest_any (A : Option Addr) (c m : Nat) (w : World) (hB : BytesIn w A m) (hc : m ≤ c) (hc2 : c ≤ 9223372036854775807) :
    Calls Tryd.prog 4 #[.slice A m c] w fun e w' => e = .returned (.bool true) ∧ Below w.heap.size w w' := by
  by_cases hlen : (1048576 : Int) < m
  · go_enter Tryd.func4, Tryd.ntmps4
    go_wp2_with fail
    go_ret
    exact ⟨rfl, by go_grown⟩
  · go_enter Tryd.func4, Tryd.ntmps4
    go_wp2_with fail
    refine (drawFlowBest_any A c m w hB (by omega) hc hc2).mono ?_
    rintro e w1 ⟨xs, g, c1, rfl, hI, hl, hb1⟩
    have hl' : xs.length ≤ 1048576 := by omega
    have HI := hide hI
    clear hI
    obtain ⟨T, HT⟩ : ∃ T, Hid (flowBestL xs = T) := ⟨_, hide rfl⟩
    have hTl7 : T.length ≤ 7 := by
      rw [← HT.out]
      exact Nat.le_trans (flowBestL_len _) hl
    have hTl : T.length ≤ 1048576 := by omega
    go_wp2_with fail
    refine (implFlowBest_any _ _ _ _ HI.out hl').mono ?_
    rintro e w2 ⟨v, rfl, hv, hB2⟩
    rw [HT.out] at hv
    obtain ⟨A2, k2, rfl, hI2, -⟩ := hv.form
    have hb2 := next hb1 hB2
    have HI2 := hide (HI.out.below hB2)
    have HT2 := hide hI2
    clear hB2 hv hI2
    go_wp2_with fail
    refine (specFlowBest_any _ _ _ _ HI2.out hl').mono ?_
    rintro e w3 ⟨v, rfl, hv, hB3⟩
    rw [HT.out] at hv
    obtain ⟨A3, k3, rfl, hI3, -⟩ := hv.form
    have hb3 := next hb2 hB3
    have HI3 := hide (HI2.out.below hB3)
    have HT3 := hide (HT2.out.below hB3)
    have HU3 := hide hI3
    clear hB3 hv hI3
    go_wp2_with fail
    refine (sameInts_same _ _ _ _ _ _ HT3.out HU3.out hTl).mono ?_
    rintro e w4 ⟨rfl, hB4⟩
    have hb4 := next hb3 hB4
    have HI4 := hide (HI3.out.below hB4)
    have HT4 := hide (HT3.out.below hB4)
    clear hB4
    go_wp2_with fail
    refine (specDishesValid_any _ _ _ _ HI4.out hl').mono ?_
    rintro e w5 ⟨rfl, hB5⟩
    have hb5 := next hb4 hB5
    have HI5 := hide (HI4.out.below hB5)
    have HT5 := hide (HT4.out.below hB5)
    clear hB5 HI HI2 HI3 HI4 HT2 HT3 HT4 HU3
    cases hok : dishesOk xs with
    | false =>
      have hT0 : T = [] := by rw [← HT.out]; unfold flowBestL; rw [hok]; rfl
      subst hT0
      go_wp2_with fail
      refine (alive_any _).mono ?_
      rintro e w6 ⟨rfl, hB6⟩
      go_wp2_with fail
      go_ret
      exact ⟨rfl, next hb5 hB6⟩
    | true =>
      have hfit := flowBest_fit hok
      have h0 := (flow_least hfit).1
      have HOO : Hid (orderOkL T (xs.length : Int) = true) := hide (by rw [← HT.out]; exact (fit_parts hfit).2)
      have HSW : Hid (∀ j, j + 1 < T.length → flowEndL xs T ≤ flowEndL xs (swapAt T j)) := hide (fun j hj => by
        rw [← HT.out] at hj ⊢
        exact (flow_swapped hok hj).2)
      rw [HT.out] at h0
      obtain ⟨x, hx⟩ : ∃ x, flowEndL xs T = x := ⟨_, rfl⟩
      rw [hx] at h0
      have HX := hide hx
      clear hx hok hfit
      go_wp2_with fail
      refine (implFlowEnd_at _ _ _ _ _ _ T x _ rfl HX HI5.out hl' HT5.out hTl).mono ?_
      rintro e w6 ⟨rfl, hB6⟩
      have hb6 := next hb5 hB6
      have HI6 := hide (HI5.out.below hB6)
      have HT6 := hide (HT5.out.below hB6)
      clear hB6 HI5 HT5
      go_wp2_with fail
      go_loopw [6] (fun iv wr => ∃ j : Nat, (j = 0 ∨ j < T.length) ∧ iv = .int .i64 ((j : Int) + 1) ∧ Below w6.heap.size w6 wr) (fun iv _ => T.length + 1 - (intOf iv).toNat)
      case atStart => exact ⟨0, .inl rfl, rfl, Below.refl _ _⟩
      case round =>
        obtain ⟨j, hj, rfl, hd⟩ := hrel
        have hb := next hb6 hd
        have hsz := hd.size
        by_cases hlt : j + 1 < T.length
        · have h1 := List.getElem?_eq_getElem hlt
          have h2 := List.getElem?_eq_getElem (show j < T.length by omega)
          obtain ⟨a, ha⟩ : ∃ a, T[j + 1] = a := ⟨_, rfl⟩
          obtain ⟨b, hb'⟩ : ∃ b, T[j]'(by omega) = b := ⟨_, rfl⟩
          rw [ha] at h1
          rw [hb'] at h2
          obtain ⟨bt, offt, rfl, hbl, hca⟩ := (HT6.out.below hd) (j + 1) _ h1
          obtain ⟨b', off', hDD, hbl', hcb⟩ := (HT6.out.below hd) j _ h2
          injection hDD with hDD
          injection hDD with e1 e2
          subst e1 e2
          have HTR := hide (HT6.out.below hd)
          have HSWE : Hid ((T.set j a).set (j + 1) b = swapAt T j) := hide (by
            unfold swapAt
            rw [List.getD_eq_getElem?_getD, List.getD_eq_getElem?_getD, h1, h2]
            exact List.set_comm _ _ (by omega))
          have hle : x ≤ flowEndL xs (swapAt T j) := by rw [← HX.out]; exact HSW.out j hlt
          obtain ⟨y, hy⟩ : ∃ y, flowEndL xs (swapAt T j) = y := ⟨_, rfl⟩
          rw [hy] at hle
          have HY : Hid (flowEndL xs ((T.set j a).set (j + 1) b) = y) := hide (by rw [HSWE.out]; exact hy)
          have HCA : Hid (∀ W, Below wr.heap.size wr W → W.cell? ⟨bt, offt + (j + 1), none⟩ = some (.int .i64 a)) := hide (fun W hW => (hW.cell hbl).trans hca)
          have HCB : Hid (∀ W, Below wr.heap.size wr W → W.cell? ⟨bt, offt + j, none⟩ = some (.int .i64 b)) := hide (fun W hW => (hW.cell hbl).trans hcb)
          have hz : (0 : Int) ≤ j := by omega
          have hz2 : (j : Int) + 1 < T.length := by omega
          have HO : Hid (IntSl (wr.alloc (.cells #[] 3)) wr.heap.size (.slice (some ⟨wr.heap.size, 0, none⟩) 0 0) []) := hide (World.ownsRow_lit wr #[] 0 (Nat.le_refl _) (by unfold maxLen; omega) rfl)
          have HTA := hide (HTR.out.below (w' := wr.alloc (.cells #[] 3)) (by go_grown))
          have HBA : Hid (Below wr.heap.size wr (wr.alloc (.cells #[] 3))) := hide (by go_grown)
          clear h1 h2 ha hb' hca hcb hy
          go_upto_region 14 with (at_builtin; refine wpList_spreadN_int rfl _ _ rfl wr.heap.size (.slice (some ⟨wr.heap.size, 0, none⟩) 0 0) [] rfl HO.out ⟨bt, offt, none⟩ T.length k2 (by omega) T rfl rfl HTA.out (by simp; omega) (by simp) ?_; intro g5 cap w7 hown hgrow; have HOWN := hide hown; have HGROW := hide hgrow; clear hown hgrow)
          have hb7 : Below wr.heap.size wr w7 := HBA.out.grown HGROW.out (by simp) (fun k hk => by have hk : some wr.heap.size = some k := hk; injection hk with hk; omega)
          have hw7 : IntSl w7 wr.heap.size (.slice (some ⟨g5, 0, none⟩) T.length cap) T := by
            have := HOWN.out
            simpa using this
          have hlen0 : ([] : List Int).length + T.length = T.length := by simp
          have hg5 := (World.ownsRow.lt hw7 g5 rfl).1
          have hcy := hw7.cellAt (j := j) (List.getElem?_eq_getElem (show j < T.length by omega))
          generalize (T[j]'(by omega)) = o1 at hcy
          have hfy := hw7.frozenAt j
          have hs8 := IntSl.store hw7 j a
          have hg8 := IntSl.grownSet hw7 j a
          have hcz := hs8.cellAt (j := j + 1) (List.getElem?_eq_getElem (show j + 1 < (T.set j a).length by rw [List.length_set]; omega))
          generalize ((T.set j a)[j + 1]'(by rw [List.length_set]; omega)) = o2 at hcz
          have hfz := hs8.frozenAt (j + 1)
          have HS9 := hide (IntSl.store hs8 (j + 1) b)
          have hg9 := IntSl.grownSet hs8 (j + 1) b
          have hb8 : Below wr.heap.size wr (w7.setCell ⟨g5, j, none⟩ (.int .i64 a)) := hb7.grown hg8 hb7.size (fun k hk => by injection hk with hk; omega)
          have HB9 : Hid (Below wr.heap.size wr ((w7.setCell ⟨g5, j, none⟩ (.int .i64 a)).setCell ⟨g5, j + 1, none⟩ (.int .i64 b))) := hide (hb8.grown hg9 hb8.size (fun k hk => by injection hk with hk; omega))
          have hca7 := HCA.out _ hb7
          have hcb8 := HCB.out _ hb8
          clear hs8 hg8 hg9 hw7 hb8
          (try rw [hlen0])
          go_wp2_with fail
          refine (implFlowEnd_at _ _ _ _ T.length _ ((T.set j a).set (j + 1) b) y _ (by rw [List.length_set, List.length_set]) HY ((HI6.out.below hd).below HB9.out) hl' (IntSl.ints HS9.out) hTl).mono ?_
          rintro e w10 ⟨rfl, hB10⟩
          have hb10 : Below w6.heap.size w6 w10 := hd.trans ((HB9.out.trans (hB10.mono HB9.out.size)).mono hsz)
          clear hB10
          go_wp2_with fail
          go_roundw
          case rel => exact ⟨j + 1, .inr hlt, by go_num, hb10⟩
          case measure => simp [intOf]; omega
        · have hz2 : ¬ (j : Int) + 1 < T.length := by omega
          go_wp2_with fail
          refine (implOrderOk_any _ _ _ _ _ (HT6.out.below hd) hTl).mono ?_
          rintro e w7 ⟨rfl, hB7⟩
          rw [HOO.out]
          have hb7 := next hb hB7
          go_wp2_with fail
          go_ret
          exact ⟨rfl, hb7⟩
end Go.Proofs.YteloapholoechaaDoor
