/- For all drawn bytes the law of FlowEnd answers true, and its argument reads as it did.
   Conditions: none. -/
import Derived.Test.YteloapholoechaaDoorWalkFlowBest
import Derived.Test.YteloapholoechaaDoorDrawFlow
namespace Go.Proofs.YteloapholoechaaDoor
open Go.RowKit Go.ChangeShapes Go.WideShapes Go.ChangeAt Go.Deep

theorem rowsApartF {w : World} {lo lo' : Nat} {e e' : TypeId} {size size' : Nat} {v v' : Value} {n n' : Nat} {xs xs' : List Value} (h : w.ownsRow lo e size v n xs) (h' : w.ownsRow lo' e' size' v' n' xs') (he : e ≠ e') : v.ownBlock = none ∨ v.ownBlock ≠ v'.ownBlock := by
  rcases h.2 with ⟨rfl, _⟩ | ⟨g, cap, cur, rfl, _, hg, _⟩
  · exact .inl rfl
  · rcases h'.2 with ⟨rfl, _⟩ | ⟨g', cap', cur', rfl, _, hg', _⟩
    · exact .inr (fun e => by cases e)
    · refine .inr (fun e => ?_)
      have e : some g = some g' := e
      injection e with e
      subst e
      rw [hg] at hg'
      injection hg' with hg'
      injection hg' with _ e2 _
      exact he e2

set_option maxHeartbeats 1000000 in
theorem drawFlowEnd_any (A : Option Addr) (c m : Nat) (w : World) (hB : BytesIn w A m) (hm : m ≤ 9223372036854775807) (hc : m ≤ c) (hc2 : c ≤ 9223372036854775807) :
    Calls Tryd.prog 14 #[.slice A m c] w (DrawnFlow w) := by
  go_enter Tryd.func14, Tryd.ntmps14
  go_wp2_with fail
  refine (open_any A c m w hB hm hc hc2).mono ?_
  rintro e w1 ⟨rfl, hR1, hb1⟩
  have hz1 := hb1.size
  go_wp2_with fail
  refine (l20Flow_any w.heap.size 0 _ hR1 (by omega)).mono ?_
  rintro e w2 ⟨xs, os, g, c2, g3, c3, rfl, hS2, hS3, hl, hl3, hg2⟩
  have hb2 : Below w.heap.size w w2 := hb1.grown hg2 hz1 (fun j hj => by injection hj with hj; omega)
  have HI := hide (DishSl.dishes hS2)
  have HO := hide hS3.ints
  have hcap3 := (IntSl.capI hS3).2.1
  clear hS2 hS3 hg2
  go_wp2_with fail
  refine bodyPost_ret (results_tmp2 rfl _ _ _) rfl ⟨xs, os, g, c2, g3, c3, rfl, HI.out, HO.out, hl, hl3, hcap3, hb2⟩

theorem implFlowEnd_at2 (A B : Option Addr) (c d m n : Nat) (l : List Dish) (ord : List Int) (v : Int) (w : World) (hlm : l.length = m) (hn : ord.length = n) (hv : Hid (flowEndL l ord = v)) (hA : DishesAt w A l) (hl : m ≤ 1048576) (hB : IntsAt w B ord) (hm : n ≤ 1048576) :
    Calls Tryd.prog 15 #[.slice A m c, .slice B n d] w fun e w' => e = .returned (.int .i64 v) ∧ Below w.heap.size w w' := by
  subst hlm
  exact implFlowEnd_at A B c d n l ord v w hn hv hA hl hB hm
theorem rev_at {os : List Int} {j : Nat} (hj : j < os.length) {x : Int} (hx : os[os.length - 1 - j]? = some x) : os.reverse.take (j + 1) = os.reverse.take j ++ [x] := by
  have hl : j < os.reverse.length := by rw [List.length_reverse]; exact hj
  have e : os.reverse[j]? = some x := by rw [List.getElem?_reverse hj]; exact hx
  rw [List.take_succ_eq_append_getElem hl]
  rw [List.getElem?_eq_getElem hl] at e
  injection e with e
  rw [e]

set_option maxRecDepth 100000 in
set_option maxHeartbeats 4000000 in
theorem lawFlowEnd_any (A : Option Addr) (c m : Nat) (w : World) (hB : BytesIn w A m) (hc : m ≤ c) (hc2 : c ≤ 9223372036854775807) :
    Calls Tryd.prog 3 #[.slice A m c] w fun e w' => e = .returned (.bool true) ∧ Below w.heap.size w w' := by
  by_cases hlen : (1048576 : Int) < m
  · go_enter Tryd.func3, Tryd.ntmps3
    go_wp2_with fail
    go_ret
    exact ⟨rfl, by go_grown⟩
  · go_enter Tryd.func3, Tryd.ntmps3
    go_wp2_with fail
    refine (drawFlowEnd_any A c m w hB (by omega) hc hc2).mono ?_
    rintro e w1 ⟨xs, os, g, c1, go, c2, rfl, hI, hJ, hl, hol, hoc, hb1⟩
    have hl' : xs.length ≤ 1048576 := by omega
    have ho' : os.length ≤ 1048576 := by omega
    have HI := hide hI
    have HJ := hide hJ
    clear hI hJ
    obtain ⟨v, HV⟩ : ∃ v, Hid (flowEndL xs os = v) := ⟨_, hide rfl⟩
    have hbb : (v != v) = false := by simp
    go_wp2_with fail
    refine (implFlowEnd_any _ _ _ _ _ _ _ HI.out hl' HJ.out ho').mono ?_
    rintro e w2 ⟨rfl, hB2⟩
    have hb2 := next hb1 hB2
    have HI2 := hide (HI.out.below hB2)
    have HJ2 := hide (HJ.out.below hB2)
    rw [HV.out]
    clear hB2 HI HJ
    go_wp2_with fail
    refine (specFlowEnd_any _ _ _ _ _ _ _ HI2.out hl' HJ2.out ho' hoc).mono ?_
    rintro e w3 ⟨rfl, hB3⟩
    have hb3 := next hb2 hB3
    have HI3 := hide (HI2.out.below hB3)
    have HJ3 := hide (HJ2.out.below hB3)
    rw [HV.out]
    clear hB3 HI2 HJ2
    cases hok : flowFit xs os with
    | false =>
      obtain rfl : v = -1 := by rw [← HV.out]; unfold flowEndL; rw [hok]; rfl
      go_wp2_with fail
      refine (alive_any _).mono ?_
      rintro e w6 ⟨rfl, hB6⟩
      go_wp2_with fail
      go_ret
      exact ⟨rfl, next hb3 hB6⟩
    | true =>
      obtain ⟨l0, l1⟩ := flow_least hok
      have HTR := hide (flow_turned hok)
      obtain ⟨o1, o2, o3⟩ := orderOkL_iff.1 (fit_parts hok).2
      have holn : os.length = xs.length := by omega
      obtain ⟨hoa, hob⟩ := eqLe holn
      rw [HV.out] at l1
      obtain ⟨L, hL⟩ : ∃ L, flowEndL xs (flowBestL xs) = L := ⟨_, rfl⟩
      rw [hL] at l0 l1
      have HL := hide hL
      have HOL := hide holn
      have hv0 : ¬ v < 0 := by omega
      have hvv : (v == v) = true := by simp
      have HO0 : Hid (DishSl (w3.alloc (.cells #[] 30)) w3.heap.size (.slice (some ⟨w3.heap.size, 0, none⟩) 0 0) []) := hide (World.ownsRow_lit w3 #[] 0 (Nat.le_refl _) (by unfold maxLen; omega) rfl)
      have hb4 : Below w3.heap.size w3 ((w3.alloc (.cells #[] 30)).alloc (.cells #[] 3)) := by go_grown
      have HO1 : Hid (DishSl ((w3.alloc (.cells #[] 30)).alloc (.cells #[] 3)) w3.heap.size (.slice (some ⟨w3.heap.size, 0, none⟩) 0 0) []) := hide (World.ownsRow.alloc HO0.out _)
      have HO2 : Hid (IntSl ((w3.alloc (.cells #[] 30)).alloc (.cells #[] 3)) w3.heap.size (.slice (some ⟨w3.heap.size + 1, 0, none⟩) 0 0) []) := hide (by
        have := World.ownsRow_lit (w3.alloc (.cells #[] 30)) #[] 0 (base := w3.heap.size) (e := 3) (size := 1) (by simp) (by unfold maxLen; omega) rfl
        rw [World.size_alloc] at this
        exact this)
      clear hok o1 o2 o3 holn hL
      go_wp2_with fail
      go_loopw [6, 7, 8] (fun tv bv iv wr => ∃ (j gt ct gb cb : Nat), j ≤ xs.length ∧ iv = .int .i64 (j : Int) ∧ tv = .slice (some ⟨gt, 0, none⟩) j ct ∧ bv = .slice (some ⟨gb, 0, none⟩) j cb ∧ DishSl wr w3.heap.size (.slice (some ⟨gt, 0, none⟩) j ct) ((xs.take j).map swD) ∧ IntSl wr w3.heap.size (.slice (some ⟨gb, 0, none⟩) j cb) (os.reverse.take j) ∧ Below w3.heap.size w3 wr) (fun _ _ iv _ => xs.length - (intOf iv).toNat)
      case atStart => exact ⟨0, w3.heap.size, 0, w3.heap.size + 1, 0, Nat.zero_le _, rfl, rfl, rfl, HO1.out, HO2.out, hb4⟩
      case round =>
        clear HO0 HO1 HO2 hb4
        obtain ⟨j, gt, ct, gb, cb, hj, rfl, rfl, rfl, hS, hT, hd⟩ := hrel
        have hb := next hb3 hd
        have hsz := hd.size
        by_cases hlt : j < xs.length
        · have hx := List.getElem?_eq_getElem hlt
          obtain ⟨b, off, hDD, hbl, hcp, hcc⟩ := HI3.out j xs[j] hx
          injection hDD with hDD
          injection hDD with e1 e2
          subst e1 e2
          rw [Nat.zero_add] at hcp hcc
          obtain ⟨o, ho⟩ : ∃ o, os[os.length - 1 - j]? = some o := ⟨_, List.getElem?_eq_getElem (by omega)⟩
          obtain ⟨b2, off2, hDD, hbl2, hco⟩ := HJ3.out _ o ho
          injection hDD with hDD
          injection hDD with e1 e2
          subst e1 e2
          rw [Nat.zero_add] at hco
          have HRV := hide (rev_at (by omega : j < os.length) ho)
          have HTK : Hid ((xs.take (j + 1)).map swD = (xs.take j).map swD ++ [swD xs[j]]) := hide (by rw [List.take_succ_eq_append_getElem hlt, List.map_append]; rfl)
          generalize xs[j] = x at *
          obtain ⟨xp, xc⟩ := x
          simp only at hcp hcc
          have hz : (0 : Int) ≤ j := by omega
          have hz2 : (j : Int) < xs.length := by omega
          have hll : ((xs.take j).map swD).length = j := by rw [List.length_map, List.length_take]; omega
          have hlr : (os.reverse.take j).length = j := by rw [List.length_take, List.length_reverse]; omega
          obtain ⟨n0, hn0⟩ : ∃ n0 : Nat, os.length - 1 - j = n0 := ⟨_, rfl⟩
          rw [hn0] at hco
          have hsub : (os.length : Int) - 1 - j = n0 := by omega
          have hn1 : (0 : Int) ≤ n0 := by omega
          have hn2 : (n0 : Int) < os.length := by omega
          have hwa : IntKind.i64.wrap ((os.length : Int) - 1) = (os.length : Int) - 1 := IntWalk.i64_in _ (by omega)
          obtain ⟨ds, hds⟩ : ∃ ds, (xs.take j).map swD = ds := ⟨_, rfl⟩
          obtain ⟨rs, hrs⟩ : ∃ rs, os.reverse.take j = rs := ⟨_, rfl⟩
          rw [hds] at hS hll HTK
          rw [hrs] at hT hlr HRV
          have HNE := hide (rowsApartF hT hS (by decide))
          have hdl : ds.length ≤ 1048576 := by omega
          have hrl : rs.length ≤ 1048576 := by omega
          have HLL := hide hll
          have HLR := hide hlr
          have hgl := (DishSl.capD hS).2.2.2
          have hgl2 := (IntSl.capI hT).2.2.2
          have HSA : Hid (DishSl (wr.alloc (.cells #[.int .i64 xc, .int .i64 xp] 30)).drew w3.heap.size (.slice (some ⟨gt, 0, none⟩) j ct) ds) := hide (World.ownsRow.alloc hS _)
          have HTA : Hid (IntSl (wr.alloc (.cells #[.int .i64 xc, .int .i64 xp] 30)).drew w3.heap.size (.slice (some ⟨gb, 0, none⟩) j cb) rs) := hide (World.ownsRow.alloc hT _)
          have HBA : Hid (Below w3.heap.size w3 (wr.alloc (.cells #[.int .i64 xc, .int .i64 xp] 30)).drew) := hide ((hd.alloc hsz _).drew)
          have HC : Hid (∀ W, Below w3.heap.size w3 W → W.cell? ⟨go, n0, none⟩ = some (.int .i64 o)) := hide (fun W hW => (hW.cell hbl2).trans hco)
          have HCD : Hid (∀ W, Below w3.heap.size w3 W → W.cell? ⟨g, j * 2, none⟩ = some (.int .i64 xp) ∧ W.cell? ⟨g, j * 2 + 1, none⟩ = some (.int .i64 xc)) := hide (fun W hW => ⟨(hW.cell hbl).trans hcp, (hW.cell hbl).trans hcc⟩)
          have HG : Hid (∀ w1, (wr.alloc (.cells #[.int .i64 xc, .int .i64 xp] 30)).drew.grownBy w1 (Value.slice (some ⟨gt, 0, none⟩) j ct).ownBlock → Below w3.heap.size w3 w1) := hide (fun w1 hg => HBA.out.grown hg HBA.out.size (fun k hk => by have hk : some gt = some k := hk; injection hk with hk; omega))
          obtain ⟨hcp, hcc⟩ := HCD.out _ hd
          clear hx ho hds hrs hll hlr hS hT hn0 hco
          go_upto_region 14 with fail
          go_region_held3 (fun W => W.cell? ⟨g, j * 2, none⟩ = some (.int .i64 xp) ∧ W.cell? ⟨g, j * 2 + 1, none⟩ = some (.int .i64 xc))
            (first | exact HCD.out _ hd.drew | exact HCD.out _ HBA.out | exact HCD.out _ (HG.out _ hgrow))
            ((refine step_push_dish (by rfl) _ _ (by rfl) w3.heap.size (.slice (some ⟨gt, 0, none⟩) j ct) ds (by rfl) HSA.out wr.heap.size ⟨xc, xp⟩ (by rfl) (heap_alloc_new wr _) hdl (by simp; omega) ?_; intro gg cap w5 hown hgrow))
          all_goals
            have hb5 := HG.out _ hgrow
            have HBN : Hid ((os.reverse.take (j + 1)) = rs ++ [o]) := HRV
            have hTA5 : IntSl w5 w3.heap.size (.slice (some ⟨gb, 0, none⟩) j cb) rs := IntSl.row HTA.out hgrow HNE.out
            have hown5 : DishSl w5 w3.heap.size (.slice (some ⟨gg, 0, none⟩) (j + 1) cap) ((xs.take (j + 1)).map swD) := by
              have := hown
              rw [HLL.out] at this
              rw [HTK.out]
              exact this
            rw [HLL.out]
            have hsz5 := hb5.size
            have HDA := hide (World.ownsRow.alloc hown5 (.cells #[.int .i64 o] 3))
            have HTA6 := hide (World.ownsRow.alloc hTA5 (.cells #[.int .i64 o] 3))
            have HBA6 := hide (hb5.alloc hsz5 (.cells #[.int .i64 o] 3))
            have HNE5 := hide (rowsApartF hown5 hTA5 (by decide))
            have hco5 := HC.out _ hb5
            have HLT := hide (World.ownsRow.lt hTA5)
            clear hown hgrow hTA5 hown5 hcp hcc
            go_wp2_with (at_builtin; refine wpList_push_int rfl _ _ rfl w3.heap.size (.slice (some ⟨gb, 0, none⟩) j cb) rs rfl HTA6.out w5.heap.size o rfl (heap_alloc_new w5 _) hrl (by simp; omega) ?_; intro g7 cap7 w7 hown7 hgrow7 hnew7)
            have hb7 : Below w3.heap.size w3 w7 := HBA6.out.grown hgrow7 (by simp; omega) (fun k hk => (HLT.out k hk).1)
            have hD7 : DishSl w7 w3.heap.size (.slice (some ⟨gg, 0, none⟩) (j + 1) cap) ((xs.take (j + 1)).map swD) := DishSl.row HDA.out hgrow7 HNE5.out
            have hR7 : IntSl w7 w3.heap.size (.slice (some ⟨g7, 0, none⟩) (j + 1) cap7) (os.reverse.take (j + 1)) := by
              have := hown7
              rw [HLR.out] at this
              rw [HRV.out]
              exact this
            have hlr := HLR.out
            clear hown7 hgrow7 hnew7
            rw [hlr]
            go_wp2_with fail
            go_roundw
            case rel => exact ⟨j + 1, gg, cap, g7, cap7, hlt, by go_num, rfl, rfl, hD7, hR7, hb7⟩
            case measure => simp [intOf]; omega
        · obtain rfl : j = xs.length := by omega
          have hz2 : ¬ ((xs.length : Int) < xs.length) := by omega
          have HD1 := hide (DishSl.dishes hS)
          have HR1 := hide (IntSl.ints hT)
          rw [List.take_length] at HD1
          have hto : os.reverse.take xs.length = os.reverse := List.take_of_length_le (by rw [List.length_reverse]; omega)
          rw [hto] at HR1
          clear hS hT hto
          go_wp2_with fail
          refine (implFlowLeast_any _ _ _ _ (HI3.out.below hd) hl').mono ?_
          rintro e w5 ⟨rfl, hB5⟩
          rw [HL.out]
          have hb5 := next hb hB5
          have HD2 := hide (HD1.out.below hB5)
          have HR2 := hide (HR1.out.below hB5)
          clear hB5
          go_wp2_with fail
          refine (implFlowEnd_at2 _ _ _ _ xs.length xs.length (xs.map swD) os.reverse v _ (by rw [List.length_map]) (by rw [List.length_reverse]; exact HOL.out) (hide (HTR.out.trans HV.out)) HD2.out hl' HR2.out hl').mono ?_
          rintro e w6 ⟨rfl, hB6⟩
          go_wp2_with fail
          go_ret
          exact ⟨rfl, next hb5 hB6⟩
end Go.Proofs.YteloapholoechaaDoor
