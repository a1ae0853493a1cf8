/- For all drawn bytes the law of UseFirst answers true, and its argument reads as it did.
   Conditions: none. -/
import Derived.Test.YtndcanllkmfahaaDoorLawKit
import Derived.Test.YtndcanllkmfahaaDoorLotKit
import Derived.Test.YtndcanllkmfahaaDoorDrawUB
import Derived.Test.YtndcanllkmfahaaDoorTakeMath3
import Derived.Test.YtndcanllkmfahaaDoorSame
namespace Go.Proofs.YtndcanllkmfahaaDoor
open Go.RowKit Go.ChangeShapes Go.WideShapes Go.ChangeAt

theorem implTakeDo_at (A B : Option Addr) (c d n : Nat) (l : List Lot) (day : Int) (take : List Int) (X : List Lot) (w : World) (hn : Hid (l.length = n)) (hX : Hid (takeDoL l day take = X)) (hok : Hid (takeOkL l day take = true)) (hA : LotsAt w A l) (hl : l.length ≤ 1048576) (hT : IntsAt w B take) (ht : take.length ≤ 1048576) :
    Calls Tryd.prog 18 #[.slice A n c, .int .i64 day, .slice B take.length d] w fun e w' => ∃ (A' : Option Addr) (m c' : Nat), e = .returned (.tuple #[.slice A' m c', .bool true]) ∧ Hid (X.length = m) ∧ LotsAt w' A' X ∧ Below w.heap.size w w' := by
  have := implTakeDo_any A B c d l day take w hA hl hT ht
  rw [hX.out, hok.out, hn.out] at this
  refine this.mono ?_
  rintro e w' ⟨v, rfl, hv, hb⟩
  obtain ⟨A', c', rfl, hI⟩ := hv.form
  exact ⟨A', X.length, c', rfl, hide rfl, hI, hb⟩

set_option maxRecDepth 100000 in
set_option maxHeartbeats 4000000 in
theorem lawUseFirst_any (A : Option Addr) (c m : Nat) (w : World) (hB : BytesIn w A m) (hc : m ≤ c) (hc2 : c ≤ 9223372036854775807) :
    Calls Tryd.prog 7 #[.slice A m c] w fun e w' => e = .returned (.bool true) ∧ Below w.heap.size w w' := by
  by_cases hlen : (1048576 : Int) < m
  · go_enter Tryd.func7, Tryd.ntmps7
    go_wp2_with fail
    go_ret
    exact ⟨rfl, by go_grown⟩
  · go_enter Tryd.func7, Tryd.ntmps7
    go_wp2_with fail
    refine (drawUseFirst_any A c m w hB (by omega) hc hc2).mono ?_
    rintro e w1 ⟨ls, g, c1, xs, h, c2, rfl, hS, hT, hl, hx, hb1⟩
    have hl' : ls.length ≤ 1048576 := by omega
    have hx' : xs.length ≤ 1048576 := by omega
    have HI := hide hS.lots
    have HT := hide hT.ints
    obtain ⟨U, HU⟩ : ∃ U, Hid (useFirstL ls xs = U) := ⟨_, hide rfl⟩
    have hUl : U.length ≤ 1048576 := by rw [← HU.out]; exact Nat.le_trans useFirstL_len (by omega)
    have HUR : Hid (∀ x ∈ U, x.length ≤ 1048576) := hide (fun x hx => Nat.le_trans (useFirstL_rows x (by rw [HU.out]; exact hx)).1 (by omega))
    clear hS hT
    go_wp2_with fail
    refine (implUseFirst_any _ _ _ _ _ _ _ HI.out hl' HT.out hx').mono ?_
    rintro e w2 ⟨v, rfl, hv, hB2⟩
    rw [HU.out] at hv
    obtain ⟨A2, k2, rfl, hI2⟩ := hv.form
    have hb2 := next hb1 hB2
    have HI2 := hide (HI.out.below hB2)
    have HT2 := hide (HT.out.below hB2)
    have HU2 := hide hI2
    clear hB2 hv hI2 HI HT
    go_wp2_with fail
    refine (specUseFirst_any _ _ _ _ _ _ _ HI2.out hl' HT2.out hx').mono ?_
    rintro e w3 ⟨v, rfl, hv, hB3⟩
    rw [HU.out] at hv
    obtain ⟨A3, k3, rfl, hI3⟩ := hv.form
    have hb3 := next hb2 hB3
    have HI3 := hide (HI2.out.below hB3)
    have HT3 := hide (HT2.out.below hB3)
    have HU3 := hide (HU2.out.below hB3)
    have HY3 := hide hI3
    clear hB3 hv hI3 HI2 HT2 HU2
    go_wp2_with fail
    refine (sameLists_q _ _ _ _ _ _ HU3.out HY3.out hUl HUR.out).mono ?_
    rintro e w4 ⟨rfl, m4, rfl⟩
    have hB4 : Below w3.heap.size w3 (w3.drewN m4) := below_drewN (Below.refl _ _) _
    have hb4 := next hb3 hB4
    have HI4 := hide (HI3.out.below hB4)
    have HT4 := hide (HT3.out.below hB4)
    have HU4 := hide (HU3.out.below hB4)
    generalize w3.drewN m4 = w4 at *
    clear hB4 HI3 HT3 HU3 HY3
    cases hlo : lotsOk ls with
    | false =>
      have hU0 : U = [] := by rw [← HU.out]; unfold useFirstL stockOk; rw [hlo]; rfl
      subst hU0
      have HLO := hide hlo
      clear hlo
      go_wp2_with fail
      refine (specLotsValid_any _ _ _ _ HI4.out hl').mono ?_
      rintro e w5 ⟨rfl, hB5⟩
      rw [HLO.out]
      have hb5 := next hb4 hB5
      go_wp2_with fail
      refine (alive_any _).mono ?_
      rintro e w6 ⟨rfl, hB6⟩
      go_wp2_with fail
      go_ret
      exact ⟨rfl, next hb5 hB6⟩
    | true =>
      have HLO := hide hlo
      cases hwo : wantsOk xs with
      | false =>
        have hU0 : U = [] := by rw [← HU.out]; unfold useFirstL stockOk; rw [hlo, hwo]; rfl
        subst hU0
        have HWO := hide hwo
        clear hlo hwo
        go_wp2_with fail
        refine (specLotsValid_any _ _ _ _ HI4.out hl').mono ?_
        rintro e w5 ⟨rfl, hB5⟩
        rw [HLO.out]
        have hb5 := next hb4 hB5
        have HT5 := hide (HT4.out.below hB5)
        go_wp2_with fail
        refine (specWantsValid_any _ _ _ _ HT5.out hx').mono ?_
        rintro e w6 ⟨rfl, hB6⟩
        rw [HWO.out]
        have hb6 := next hb5 hB6
        go_wp2_with fail
        refine (alive_any _).mono ?_
        rintro e w7 ⟨rfl, hB7⟩
        go_wp2_with fail
        go_ret
        exact ⟨rfl, next hb6 hB7⟩
      | true =>
        have HWO := hide hwo
        have HOK : Hid (stockOk ls xs = true) := hide (by unfold stockOk; rw [hlo, hwo]; rfl)
        have hUx : U.length = xs.length := by rw [← HU.out]; unfold useFirstL; rw [if_pos HOK.out, useGo_len]
        have hu1 : U.length ≤ xs.length := by omega
        have hu2 : xs.length ≤ U.length := by omega
        have HUOK : Hid (useOkL ls xs U = true) := hide (by rw [← HU.out]; exact useFirst_ok HOK.out)
        clear hlo hwo hUx
        go_wp2_with fail
        refine (specLotsValid_any _ _ _ _ HI4.out hl').mono ?_
        rintro e w5 ⟨rfl, hB5⟩
        rw [HLO.out]
        have hb5 := next hb4 hB5
        have HI5 := hide (HI4.out.below hB5)
        have HT5 := hide (HT4.out.below hB5)
        have HU5 := hide (HU4.out.below hB5)
        clear hB5 HI4 HT4 HU4
        go_wp2_with fail
        refine (specWantsValid_any _ _ _ _ HT5.out hx').mono ?_
        rintro e w6 ⟨rfl, hB6⟩
        rw [HWO.out]
        have hb6 := next hb5 hB6
        have HI6 := hide (HI5.out.below hB6)
        have HT6 := hide (HT5.out.below hB6)
        have HU6 := hide (HU5.out.below hB6)
        clear hB6 HI5 HT5 HU5
        go_wp2_with fail
        go_loopw [6, 7] (fun nv iv wr => ∃ (k n c : Nat) (A : Option Addr) (L : List Lot), k ≤ U.length ∧ iv = .int .i64 k ∧ nv = .slice A n c ∧ Hid (L.length = n ∧ L = lotsOn 0 ls xs k) ∧ LotsAt wr A L ∧ Below w6.heap.size w6 wr) (fun _ iv _ => U.length - (intOf iv).toNat)
        case atStart => exact ⟨0, ls.length, c1, some ⟨g, 0, none⟩, ls, Nat.zero_le _, rfl, rfl, hide ⟨rfl, (lotsOn_zero 0 ls xs).symm⟩, HI6.out, Below.refl _ _⟩
        case round =>
          obtain ⟨k, n, c, An, L, hk, rfl, rfl, HL, hL, hd⟩ := hrel
          have HLA := hide hL
          have hbq := next hb6 hd
          have hszq := hbq.size
          clear hL
          by_cases hltk : k < U.length
          · have hkx : k < xs.length := by omega
            obtain ⟨T, hTk⟩ : ∃ T, U[k]? = some T := ⟨_, List.getElem?_eq_getElem hltk⟩
            obtain ⟨q, hqk⟩ : ∃ q, xs[k]? = some q := ⟨_, List.getElem?_eq_getElem hkx⟩
            obtain ⟨b, off, B', ct, hDD, hbl, hc1, hTT⟩ := (HU6.out.below hd) k T hTk
            subst hDD
            obtain ⟨b2, off2, hDD, hbl2, hc2⟩ := (HT6.out.below hd) k q hqk
            injection hDD with hDD
            injection hDD with e1 e2
            subst e1 e2
            rw [Nat.zero_add] at hc2
            have hday := useGo_day HOK.out hqk (by rw [HU.out]; exact hTk)
            rw [← HL.out.2] at hday
            have hLl : L.length ≤ 1048576 := by rw [HL.out.2]; exact Nat.le_trans (lotsOn_len _ _ _ _) hl'
            have hTl : T.length ≤ 1048576 := HUR.out T (List.mem_of_getElem? hTk)
            obtain ⟨s, hs⟩ : ∃ s, sumW T = s := ⟨_, rfl⟩
            obtain ⟨u, hu⟩ : ∃ u, unitsL L (k : Int) = u := ⟨_, rfl⟩
            have hmin : min q u = s := by
              rw [← hs, ← hu, takeOkL_sum hday.2]
              exact hday.1.symm
            have hss : (s != s) = false := by simp
            have HTT := hide hTT
            have HLN : Hid (L.length = n) := hide HL.out.1
            have HCS : Hid (∀ W, Below wr.heap.size wr W → Calls Tryd.prog 15 #[.slice B' T.length ct] W fun e w' => e = .returned (.int .i64 s) ∧ W = w') := hide (fun W hW => by
              have := lawSum_any B' ct T W (HTT.out.below hW) hTl
              rwa [hs] at this)
            have HCL : Hid (∀ W, Below wr.heap.size wr W → Calls Tryd.prog 16 #[.slice An n c, .int .i64 k] W fun e w' => e = .returned (.int .i64 u) ∧ Below W.heap.size W w') := hide (fun W hW => by
              have := implLotsAt_any An c L k W (HLA.out.below hW) hLl
              rwa [hu, HLN.out] at this)
            have hnext : takeDoL L k T = lotsOn 0 ls xs (k + 1) := by
              have a := lotsOn_succ (day := 0) (l := ls) hqk
              have b := useGo_at (day := 0) (l := ls) hqk
              rw [Int.zero_add] at a b
              have hUg : useFirstL ls xs = useGo 0 ls xs := by unfold useFirstL; rw [if_pos HOK.out]
              rw [← hUg, HU.out, hTk] at b
              have b := Option.some.inj b
              rw [a, HL.out.2, b]
            have HNX := hide hnext
            have HOKT := hide hday.2
            have hk0 : (0 : Int) ≤ k := by omega
            have hk1 : (k : Int) < U.length := by omega
            have hk2 : (k : Int) < xs.length := by omega
            have hcu := hc1
            have hcq := hc2
            clear hTk hqk hday hs hu hnext hTT
            go_wp2_with fail
            go_region_held3 (fun W => W.cell? ⟨b, off + k, none⟩ = some (.slice B' T.length ct) ∧ W.cell? ⟨h, k, none⟩ = some (.int .i64 q))
              (first | exact ⟨hcu, hcq⟩ | exact ⟨(HB8.out.cell hbl).trans hcu, (HB8.out.cell hbl2).trans hcq⟩ | go_keep)
              (first
              | (go_simp; go_at_call 15; refine (HCS.out _ (by go_grown)).mono ?_; rintro e w7 ⟨rfl, rfl⟩)
              | (go_simp; go_at_call 16; refine (HCL.out _ (by go_grown)).mono ?_; rintro e w8 ⟨rfl, hB8⟩; have HB8 : Hid (Below wr.heap.size wr w8) := hide (next (by go_grown) hB8); clear hB8))
            all_goals
              have hd8 := next hd HB8.out
              have hb8 := next hb6 hd8
              have HLA8 := hide (HLA.out.below HB8.out)
              have HTT8 := hide (HTT.out.below HB8.out)
              have hcv := (HB8.out.cell hbl).trans hcu
              clear hmin
              go_wp2_with fail
              refine (implTakeDo_at _ _ _ _ _ L _ T _ _ HLN HNX HOKT (by first | exact HLA8.out | exact HLA8.out.below (by go_grown)) hLl (by first | exact HTT8.out | exact HTT8.out.below (by go_grown)) hTl).mono ?_
              rintro e w9 ⟨A9, m9, c9, rfl, HXN, hX9, hB9⟩
              have hd9 : Below w6.heap.size w6 w9 := next hd8 (by first | exact hB9 | exact next (by go_grown) hB9)
              have HX9 := hide hX9
              clear hB9 hX9
              go_wp2_with fail
              go_roundw
              case rel => exact ⟨k + 1, m9, c9, A9, _, hltk, by go_num, rfl, hide ⟨HXN.out, rfl⟩, HX9.out, hd9⟩
              case measure => simp [intOf]; omega
          · have hk1 : ¬ (k : Int) < U.length := by omega
            have HI7 := hide (HI6.out.below hd)
            have HT7 := hide (HT6.out.below hd)
            have HU7 := hide (HU6.out.below hd)
            go_wp2_with fail
            refine (implUseOk_any _ _ _ _ _ _ _ _ _ _ HI7.out hl' HT7.out hx' HU7.out hUl HUR.out).mono ?_
            rintro e w8 ⟨rfl, hB8⟩
            rw [HUOK.out]
            go_wp2_with fail
            go_ret
            exact ⟨rfl, next hbq hB8⟩
end Go.Proofs.YtndcanllkmfahaaDoor
