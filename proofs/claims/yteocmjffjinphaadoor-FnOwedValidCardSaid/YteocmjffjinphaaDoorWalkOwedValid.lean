/- For all drawn bytes the law of OwedValid answers true, and its argument reads as it did.
   Conditions: none. -/
import Derived.Test.YteocmjffjinphaaDoorLawKit
import Derived.Test.YteocmjffjinphaaDoorDrawOwed
import Derived.Test.YteocmjffjinphaaDoorOwedMath
namespace Go.Proofs.YteocmjffjinphaaDoor
open Go.RowKit Go.ChangeShapes Go.WideShapes Go.ChangeAt

theorem implOwedValid_at (A : Option Addr) (c n : Nat) (l : List Int) (b : Bool) (w : World) (hn : l.length = n) (hb : Hid (owedOk l = b)) (hA : IntsAt w A l) (hl : n ≤ 1048576) :
    Calls Tryd.prog 47 #[.slice A n c] w fun e w' => e = .returned (.bool b) ∧ Below w.heap.size w w' := by
  subst hn
  have := implOwedValid_any A c l w hA hl
  rwa [hb.out] at this
theorem owed_take {xs : List Int} {k : Nat} (h : k < xs.length) : (xs.take k).map (fun x => -x) ++ [-xs[k]] = (xs.take (k + 1)).map (fun x => -x) := by
  rw [List.take_succ_eq_append_getElem h, List.map_append]
  rfl

set_option maxHeartbeats 1000000 in
theorem drawOwedValid_any (A : Option Addr) (c m : Nat) (w : World) (hB : BytesIn w A m) (hm : m ≤ 9223372036854775807) (hc : m ≤ c) (hc2 : c ≤ 9223372036854775807) :
    Calls Tryd.prog 46 #[.slice A m c] w (DrawnIG 100000 8 w) := by
  go_enter Tryd.func46, Tryd.ntmps46
  go_wp2_with fail
  refine (open_any A c m w hB hm hc hc2).mono ?_
  rintro e w1 ⟨rfl, hR1, hb1⟩
  have hz1 := hb1.size
  go_wp2_with fail
  refine (l20Owed_any w.heap.size 0 2 _ hR1 (by omega) (by omega)).mono ?_
  rintro e w2 ⟨ls, g, c2, rfl, hS2, hl, hR2, hg2, hX⟩
  have hb2 : Below w.heap.size w w2 := hb1.grown hg2 hz1 (fun j hj => by injection hj with hj; omega)
  have HI := hide hS2.ints
  have HX := hide hX
  have hgl := (IntSl.capI hS2).2.2.2.2
  clear hS2 hg2 hX
  go_wp2_with fail
  refine bodyPost_ret (results_tmp rfl _ _ _) rfl ⟨ls, g, c2, rfl, HI.out, hl, hgl, HX, hb2⟩

set_option maxRecDepth 100000 in
set_option maxHeartbeats 4000000 in
theorem lawOwedValid_any (A : Option Addr) (c m : Nat) (w : World) (hB : BytesIn w A m) (hc : m ≤ c) (hc2 : c ≤ 9223372036854775807) :
    Calls Tryd.prog 12 #[.slice A m c] w fun e w' => e = .returned (.bool true) ∧ Below w.heap.size w w' := by
  by_cases hlen : (1048576 : Int) < m
  · go_enter Tryd.func12, Tryd.ntmps12
    go_wp2_with fail
    go_ret
    exact ⟨rfl, by go_grown⟩
  · go_enter Tryd.func12, Tryd.ntmps12
    go_wp2_with fail
    refine (drawOwedValid_any A c m w hB (by omega) hc hc2).mono ?_
    rintro e w1 ⟨xs, g, c1, rfl, hI, hl, -, HX, hb1⟩
    have hl' : xs.length ≤ 1048576 := by omega
    have HI := hide hI
    clear hI
    obtain ⟨v, HV⟩ : ∃ v, Hid (owedOk xs = v) := ⟨_, hide rfl⟩
    have hbb : (v != v) = false := by simp
    have hvv : (v == v) = true := by simp
    go_wp2_with fail
    refine (implOwedValid_any _ _ _ _ HI.out hl').mono ?_
    rintro e w2 ⟨rfl, hB2⟩
    have hb2 := next hb1 hB2
    have HI2 := hide (HI.out.below hB2)
    rw [HV.out]
    clear hB2 HI
    go_wp2_with fail
    refine (specOwedValid_any _ _ _ _ HI2.out hl').mono ?_
    rintro e w3 ⟨rfl, hB3⟩
    have hb3 := next hb2 hB3
    have HI3 := hide (HI2.out.below hB3)
    rw [HV.out]
    clear hB3 HI2
    have HS0 : Hid (IntSl (w3.alloc (.cells #[] 3)) w3.heap.size (.slice (some ⟨w3.heap.size, 0, none⟩) 0 0) []) := hide (World.ownsRow_lit w3 #[] 0 (Nat.le_refl _) (by unfold maxLen; omega) rfl)
    go_wp2_with fail
    go_loopw [5, 6] (fun pv iv wr => ∃ (k L gp cc : Nat) (P : List Int), k ≤ xs.length ∧ iv = .int .i64 k ∧ pv = .slice (some ⟨gp, 0, none⟩) L cc ∧ Hid (P.length = L ∧ P = (xs.take k).map (fun x => -x)) ∧ IntSl wr w3.heap.size (.slice (some ⟨gp, 0, none⟩) L cc) P ∧ Below w3.heap.size w3 wr) (fun _ iv _ => xs.length - (intOf iv).toNat)
    case atStart => exact ⟨0, 0, w3.heap.size, 0, [], Nat.zero_le _, rfl, rfl, hide ⟨rfl, rfl⟩, HS0.out, by go_grown⟩
    case round =>
      obtain ⟨k, L, gp, cc, P, hk, rfl, rfl, HLK, hS, hd⟩ := hrel
      have HS := hide hS
      have hb := next hb3 hd
      have hsz := hd.size
      have HLO := hide (World.ownsRow.lt HS.out)
      have hPl : P.length ≤ 1048576 := by rw [HLK.out.2, List.length_map, List.length_take]; omega
      clear hS
      by_cases hlt : k < xs.length
      · obtain ⟨b, off, hDD, hbl, hc1⟩ := (HI3.out.below hd) k xs[k] (List.getElem?_eq_getElem hlt)
        injection hDD with hDD
        injection hDD with e1 e2
        subst e1 e2
        rw [Nat.zero_add] at hc1
        have hx := HX.out xs[k] (List.getElem_mem hlt)
        obtain ⟨hx0, hx1⟩ := hx
        have HPS : Hid (P ++ [-xs[k]] = (xs.take (k + 1)).map (fun x => -x)) := hide (by rw [HLK.out.2, owed_take hlt])
        have hy : (0 : Int) ≤ k := by omega
        have hy2 : (k : Int) < xs.length := by omega
        generalize xs[k] = xk at *
        go_wp2_with (at_builtin; refine wpList_wantedI (by rfl) (wp_push_intI _ _ (by rfl) w3.heap.size (.slice (some ⟨gp, 0, none⟩) L cc) P (by rfl) (World.ownsRow.alloc HS.out _) wr.heap.size (-xk) (by rfl) (heap_alloc_new wr _) hPl (by simp; omega) ?_); intro g' cap w5 hown hgrow; have HOW := hide hown; have HD5 : Hid (Below w3.heap.size w3 w5) := hide ((show Below w3.heap.size w3 (wr.alloc (.cells #[.int .i64 (-xk)] 3)) from by go_grown).grown hgrow (by simp; omega) (fun k hk => (HLO.out k hk).1)); clear hown hgrow)
        go_roundw
        case rel => exact ⟨k + 1, P.length + 1, g', cap, _, hlt, by go_num, rfl, hide ⟨by simp, HPS.out⟩, HOW.out, HD5.out⟩
        case measure => simp [intOf]; omega
      · have hy2 : ¬ (k : Int) < xs.length := by omega
        have hPX : P = xs.map (fun x => -x) := by rw [HLK.out.2, List.take_of_length_le (by omega)]
        have HPX := hide hPX
        have HPN : Hid (P.length = L) := hide HLK.out.1
        have hL1 : L ≤ 1048576 := by rw [← HPN.out]; exact hPl
        have HNEG : Hid (owedOk P = v) := hide (by rw [hPX, owedOk_neg HX.out (by omega), HV.out])
        have HPI := hide (IntSl.ints HS.out)
        have HL0 : Hid (IntSl (wr.alloc (.cells #[] 3)) wr.heap.size (.slice (some ⟨wr.heap.size, 0, none⟩) 0 0) []) := hide (World.ownsRow_lit wr #[] 0 (Nat.le_refl _) (by unfold maxLen; omega) rfl)
        have HIA : Hid (IntsAt (wr.alloc (.cells #[] 3)) (some ⟨g, 0, none⟩) xs) := hide ((HI3.out.below hd).below (by go_grown))
        have hszb := hb.size
        clear hPX HLK
        by_cases hx0 : xs.length = 0
        · have hz1 : ¬ (0 : Int) < xs.length := by omega
          have hz2 : ((xs.length : Int) == 0) = true := by rw [hx0]; rfl
          clear hx0
          go_wp2_with (at_builtin; refine wpList_wantedI (by rfl) (wp_spread_int _ _ (by rfl) wr.heap.size (.slice (some ⟨wr.heap.size, 0, none⟩) 0 0) [] (by rfl) HL0.out (by simp) ⟨g, 0, none⟩ xs.length c1 xs rfl (by rfl) HIA.out (by simp; omega) (by simp) ?_); intro g3 cap3 w5 hown hgrow; have HB5 : Hid (Below wr.heap.size wr w5) := hide (below_own hgrow); clear hown hgrow)
          have hb5 := next hb HB5.out
          have HP5 := hide (HPI.out.below HB5.out)
          refine (implOwedValid_at _ _ _ P v _ HPN.out HNEG HP5.out hL1).mono ?_
          rintro e w6 ⟨rfl, hB6⟩
          have hb6 := next hb5 hB6
          cases v with
          | false =>
            go_wp2_with fail
            refine (alive_any _).mono ?_
            rintro e w7 ⟨rfl, hB7⟩
            go_wp2_with fail
            go_ret
            exact ⟨rfl, next hb6 hB7⟩
          | true =>
            go_wp2_with fail
            refine (alive_any _).mono ?_
            rintro e w7 ⟨rfl, hB7⟩
            go_wp2_with fail
            go_ret
            exact ⟨rfl, next hb6 hB7⟩
        · have hz1 : (0 : Int) < xs.length := by omega
          have hz2 : ((xs.length : Int) == 0) = false := beq_false_of_ne (by omega)
          obtain ⟨x, r, HXR⟩ : ∃ x r, Hid (xs = x :: r) := by
            cases xs with
            | nil => exact absurd rfl hx0
            | cons x r => exact ⟨x, r, hide rfl⟩
          have hxr := HX.out x (by rw [HXR.out]; simp)
          obtain ⟨hxr0, hxr1⟩ := hxr
          have hat : xs[0]? = some x := by rw [HXR.out]; rfl
          have HAT := hide hat
          have HSET : Hid (xs.set 0 (x + 1) = (x + 1) :: r) := hide (by rw [HXR.out]; rfl)
          clear hx0 hat
          go_wp2_with (at_builtin; refine wpList_wantedI (by rfl) (wp_spread_int _ _ (by rfl) wr.heap.size (.slice (some ⟨wr.heap.size, 0, none⟩) 0 0) [] (by rfl) HL0.out (by simp) ⟨g, 0, none⟩ xs.length c1 xs rfl (by rfl) HIA.out (by simp; omega) (by simp) ?_); intro g3 cap3 w5 hown hgrow; have HB5 : Hid (Below wr.heap.size wr w5) := hide (below_own hgrow); have HO5 : Hid (IntSl w5 wr.heap.size (.slice (some ⟨g3, 0, none⟩) xs.length cap3) xs) := hide (by have h := hown; rw [List.length_nil, Nat.zero_add, List.nil_append] at h; exact h); have hc9 := IntSl.cellAt HO5.out HAT.out; have hf9 := IntSl.frozenAt HO5.out 0; clear hown hgrow)
          have hcap9 := (IntSl.capI HO5.out).2.2.2
          have HST := hide (IntSl.store HO5.out 0 (x + 1))
          have hgs := IntSl.grownSet HO5.out 0 (x + 1)
          have HB5b : Hid (Below wr.heap.size wr (w5.setCell ⟨g3, 0, none⟩ (.int .i64 (x + 1)))) := hide (HB5.out.grown hgs HB5.out.size (fun k hk => by injection hk with hk; omega))
          rw [HSET.out] at HST
          have hb5 := next hb HB5b.out
          have HP5 := hide (HPI.out.below HB5b.out)
          have HM5 := hide (IntSl.ints HST.out)
          have HML : Hid (((x + 1) :: r).length = xs.length) := hide (by rw [HXR.out]; rfl)
          clear hgs
          go_wp2_with fail
          refine (implOwedValid_at _ _ _ P v _ HPN.out HNEG HP5.out hL1).mono ?_
          rintro e w6 ⟨rfl, hB6⟩
          have hb6 := next hb5 hB6
          have HM6 := hide (HM5.out.below hB6)
          cases v with
          | false =>
            go_wp2_with fail
            refine (alive_any _).mono ?_
            rintro e w7 ⟨rfl, hB7⟩
            go_wp2_with fail
            go_ret
            exact ⟨rfl, next hb6 hB7⟩
          | true =>
            have HMO : Hid (owedOk ((x + 1) :: r) = false) := hide (owedOk_more (by rw [← HXR.out]; exact HV.out))
            go_wp2_with fail
            refine (implOwedValid_at _ _ _ ((x + 1) :: r) false _ HML.out HMO HM6.out (by omega)).mono ?_
            rintro e w7 ⟨rfl, hB7⟩
            have hb7 := next hb6 hB7
            go_wp2_with fail
            refine (alive_any _).mono ?_
            rintro e w8 ⟨rfl, hB8⟩
            go_wp2_with fail
            go_ret
            exact ⟨rfl, next hb7 hB8⟩
end Go.Proofs.YteocmjffjinphaaDoor
