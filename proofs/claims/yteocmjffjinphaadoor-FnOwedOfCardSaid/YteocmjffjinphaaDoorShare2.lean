/- ShareOf of the reference model.
   Conditions: lists have at most 1048576 elements. -/
import Derived.Test.YteocmjffjinphaaDoorShare
import Derived.Test.YteocmjffjinphaaDoorOrders0
import Derived.Test.YteocmjffjinphaaDoorPush
namespace Go.Proofs.YteocmjffjinphaaDoor
open Go.RowKit Go.ChangeShapes Go.WideShapes Go.ChangeAt Go.Deep

/-- The first one of the greatest remainders of those that have got nothing yet; -1 if there is none. -/
def FstBest (rs got : List Int) (k : Nat) (b : Int) : Prop :=
  (b = -1 ∧ ∀ i : Nat, i < k → (i : Int) ∈ got) ∨ ∃ j : Nat, j < k ∧ b = j ∧ (j : Int) ∉ got ∧ (∀ i : Nat, i < k → (i : Int) ∉ got → rs.getD i 0 ≤ rs.getD j 0) ∧ ∀ i : Nat, i < j → (i : Int) ∉ got → rs.getD i 0 < rs.getD j 0
theorem FstBest.start (rs got : List Int) : FstBest rs got 0 (-1) := .inl ⟨rfl, fun i hi => absurd hi (by omega)⟩
theorem FstBest.cases {rs got : List Int} {k : Nat} {b : Int} (h : FstBest rs got k b) : b = -1 ∨ ∃ j : Nat, b = j ∧ j < k := by
  rcases h with ⟨e, _⟩ | ⟨j, hj, e, _⟩
  · exact .inl e
  · exact .inr ⟨j, e, hj⟩
theorem FstBest.skip {rs got : List Int} {k : Nat} {b : Int} (h : FstBest rs got k b) (hk : (k : Int) ∈ got) : FstBest rs got (k + 1) b := by
  rcases h with ⟨e, h⟩ | ⟨j, hj, e, h1, h2, h3⟩
  · refine .inl ⟨e, fun i hi => ?_⟩
    rcases Nat.lt_or_ge i k with c | c
    · exact h i c
    · obtain rfl : i = k := by omega
      exact hk
  · refine .inr ⟨j, by omega, e, h1, fun i hi hg => ?_, h3⟩
    rcases Nat.lt_or_ge i k with c | c
    · exact h2 i c hg
    · obtain rfl : i = k := by omega
      exact absurd hk hg
theorem FstBest.first {rs got : List Int} {k : Nat} (h : FstBest rs got k (-1)) (hk : (k : Int) ∉ got) : FstBest rs got (k + 1) k := by
  rcases h with ⟨_, h⟩ | ⟨j, hj, e, _⟩
  · refine .inr ⟨k, by omega, rfl, hk, fun i hi hg => ?_, fun i hi hg => absurd (h i hi) hg⟩
    rcases Nat.lt_or_ge i k with c | c
    · exact absurd (h i c) hg
    · obtain rfl : i = k := by omega
      exact Int.le_refl _
  · omega
theorem FstBest.take {rs got : List Int} {k j : Nat} (h : FstBest rs got k j) (hk : (k : Int) ∉ got) (hv : rs.getD j 0 < rs.getD k 0) : FstBest rs got (k + 1) k := by
  rcases h with ⟨e, _⟩ | ⟨j', hj, e, h1, h2, h3⟩
  · omega
  · obtain rfl : j = j' := by omega
    refine .inr ⟨k, by omega, rfl, hk, fun i hi hg => ?_, fun i hi hg => by have := h2 i hi hg; omega⟩
    rcases Nat.lt_or_ge i k with c | c
    · have := h2 i c hg
      omega
    · obtain rfl : i = k := by omega
      exact Int.le_refl _
theorem FstBest.keep {rs got : List Int} {k j : Nat} (h : FstBest rs got k j) (hv : rs.getD k 0 ≤ rs.getD j 0) : FstBest rs got (k + 1) j := by
  rcases h with ⟨e, _⟩ | ⟨j', hj, e, h1, h2, h3⟩
  · omega
  · obtain rfl : j = j' := by omega
    refine .inr ⟨j, by omega, rfl, h1, fun i hi hg => ?_, h3⟩
    rcases Nat.lt_or_ge i k with c | c
    · exact h2 i c hg
    · obtain rfl : i = k := by omega
      exact hv
theorem FstBest.done {rs : List Int} {m : Nat} {b : Int} (hm : m < rs.length) (h : FstBest rs ((gfL rs).take m) rs.length b) : ∃ q : Nat, b = q ∧ q < rs.length ∧ (gfL rs)[m]? = some (q : Int) := by
  have hml : m < (gfL rs).length := by rw [gfL_len]; exact hm
  have hsort := sortBy_sorted (negKey rs) rs.length
  have hgm := gfL_mem.1 (List.getElem_mem hml)
  obtain ⟨q, hq⟩ : ∃ q : Nat, (gfL rs)[m] = q := ⟨((gfL rs)[m]).toNat, by omega⟩
  have hdrop : (gfL rs).drop m = (gfL rs)[m] :: (gfL rs).drop (m + 1) := List.drop_eq_getElem_cons hml
  have happ : (gfL rs).take m ++ (gfL rs).drop m = gfL rs := List.take_append_drop m _
  have hsort2 : ((gfL rs).take m ++ (q : Int) :: (gfL rs).drop (m + 1)).Pairwise (lexLt (negKey rs)) := by
    rw [← hq, ← hdrop, happ]
    exact hsort
  rw [List.pairwise_append, List.pairwise_cons] at hsort2
  have hqn : (q : Int) ∉ (gfL rs).take m := fun hin => lexLt_irrefl (hsort2.2.2 _ hin q (by simp))
  have hql : q < rs.length := by omega
  refine ⟨q, ?_, hql, by rw [List.getElem?_eq_getElem hml, hq]⟩
  rcases h with ⟨_, h⟩ | ⟨j, hj, e, h1, h2, h3⟩
  · exact absurd (h q hql) hqn
  · have hjG : (j : Int) ∈ gfL rs := gfL_mem.2 ⟨by omega, by omega⟩
    rw [← happ, List.mem_append, hdrop, hq] at hjG
    rcases hjG with hjG | hjG
    · exact absurd hjG h1
    · rcases List.mem_cons.1 hjG with hjG | hjG
      · omega
      · have hlt := hsort2.2.1.1 _ hjG
        have a := h2 q hql hqn
        unfold lexLt negKey at hlt
        simp only [Int.toNat_natCast] at hlt
        rcases hlt with c | ⟨c, d⟩
        · omega
        · have := h3 q (by omega) hqn
          omega

theorem rems_getD {xs : List Int} {s : Int} {k : Nat} {x : Int} (h : xs[k]? = some x) : (remsL xs s).getD k 0 = remI s (sumL xs) x := by
  unfold remsL
  simp [List.getD_eq_getElem?_getD, h]

set_option maxRecDepth 100000 in
set_option maxHeartbeats 4000000 in
theorem specShareOf_any (A : Option Addr) (c : Nat) (xs : List Int) (s : Int) (w : World) (hA : IntsAt w A xs) (hl : xs.length ≤ 1048576) :
    Calls Tryd.prog 42 #[.slice A xs.length c, .int .i64 s] w fun e w' => ∃ v, e = .returned v ∧ IntSl w' w.heap.size v (shareOfL xs s) ∧ Below w.heap.size w w' := by
  cases hI : sharesOk xs with
  | false =>
    have HI := hide hI
    have H3 : Hid (shareOfL xs s = []) := hide (by unfold shareOfL shareOkL; rw [hI]; rfl)
    clear hI
    go_enter Tryd.func42, Tryd.ntmps42
    go_wp2_with fail
    refine (specSharesValid_any _ _ _ _ hA hl).mono ?_
    rintro e w1 ⟨rfl, hB1⟩
    rw [HI.out]
    have hsz1 := hB1.size
    go_wp2_with fail
    refine bodyPost_ret (results_tmp rfl _ _ _) rfl ⟨_, rfl, by rw [H3.out]; exact World.ownsRow_lit w1 #[] 0 hsz1 (by unfold maxLen; omega) rfl, by go_grown⟩
  | true =>
    have HI := hide hI
    cases hQ : inR s 0 9999 with
    | false =>
      have HQ := hide hQ
      have H3 : Hid (shareOfL xs s = []) := hide (by unfold shareOfL shareOkL; rw [hQ]; simp)
      clear hI hQ
      go_enter Tryd.func42, Tryd.ntmps42
      go_wp2_with fail
      refine (specSharesValid_any _ _ _ _ hA hl).mono ?_
      rintro e w0 ⟨rfl, hB1⟩
      rw [HI.out]
      go_wp2_with fail
      refine (l1In_is _ _ _ _ HQ _).mono ?_
      rintro e w1 ⟨rfl, rfl⟩
      have hsz1 := hB1.size
      go_wp2_with fail
      refine bodyPost_ret (results_tmp rfl _ _ _) rfl ⟨_, rfl, by rw [H3.out]; exact World.ownsRow_lit w1 #[] 0 hsz1 (by unfold maxLen; omega) rfl, by go_grown⟩
    | true =>
      have HQ := hide hQ
      have HSH := hide (ShOk.of (xs := xs) (s := s) (by unfold shareOkL; rw [hI, hQ]; rfl))
      have H3 : Hid (shareOfL xs s = bumpAll (partsL xs s) ((gfL (remsL xs s)).take (leftL xs s).toNat)) := hide (by unfold shareOfL shareOkL; rw [hI, hQ]; rfl)
      have HSUM := hide HSH.out.sum
      obtain ⟨T, hT⟩ : ∃ T, sumL xs = T := ⟨_, rfl⟩
      have HT := hide hT
      rw [hT] at HSUM
      have hT1 : 1 ≤ T := by rw [← hT]; exact HSH.out.t1
      have hT2 : T ≤ 140 := by rw [← hT]; exact HSH.out.t140
      have hs0 := HSH.out.s0
      have hs1 := HSH.out.s1
      have hn7 := HSH.out.n7
      have hT0 : ¬ T = 0 := by omega
      have hT9 : (T == 0) = false := by simpa using hT0
      clear hI hQ hT
      go_enter Tryd.func42, Tryd.ntmps42
      go_wp2_with fail
      refine (specSharesValid_any _ _ _ _ hA hl).mono ?_
      rintro e w0 ⟨rfl, hB1⟩
      rw [HI.out]
      go_wp2_with fail
      refine (l1In_is _ _ _ _ HQ _).mono ?_
      rintro e w1 ⟨rfl, rfl⟩
      have hsz1 := hB1.size
      have HO0 : Hid (IntSl (w1.alloc (.cells #[] 3)) w.heap.size (.slice (some ⟨w1.heap.size, 0, none⟩) 0 0) []) := hide (World.ownsRow_lit w1 #[] 0 hsz1 (by unfold maxLen; omega) rfl)
      go_wp2_with fail
      refine (l1Sum_any _ _ _ _ (hA.below hB1) hl).mono ?_
      rintro e w4 ⟨rfl, rfl⟩
      rw [HSUM.out]
      go_wp2_with fail
      go_loopw [6, 7] (fun ov i wr => ∃ (k : Nat) (os : List Int), k ≤ xs.length ∧ i = .int .i64 k ∧ Hid (os = (xs.take k).map (partI s T)) ∧ IntSl wr w.heap.size ov os ∧ Below w.heap.size w wr) (fun _ i _ => xs.length - (intOf i).toNat)
      case atStart => exact ⟨0, [], Nat.zero_le _, rfl, hide rfl, HO0.out, by go_grown⟩
      case round =>
        clear HO0 hB1
        obtain ⟨k, os, hk, rfl, HO, hS, hb⟩ := hrel
        have hsz := hb.size
        by_cases hlt : k < xs.length
        · obtain ⟨b1, off1, rfl, hbl1, hc1⟩ := (hA.below hb) k xs[k] (List.getElem?_eq_getElem hlt)
          have hx := HSH.out.rng _ (List.getElem_mem hlt)
          have HO2 : Hid (os ++ [partI s T xs[k]] = (xs.take (k + 1)).map (partI s T)) := hide (by rw [List.take_succ_eq_append_getElem hlt, List.map_append, ← HO.out]; rfl)
          have hol : os.length = k := by rw [HO.out]; simp; omega
          have hmr := smul_range hs0 hs1 hx.1 hx.2
          have hpr := part_rem (s := s) (t := T) (x := xs[k]) hmr.1 hT1
          generalize xs[k] = x at *
          obtain ⟨hm0, hm1⟩ := hmr
          obtain ⟨-, -, -, hp0, hp1⟩ := hpr
          have hw1 : IntKind.i64.wrap (s * x) = s * x := IntWalk.i64_in _ (by omega)
          have hw2 : IntKind.i64.wrap ((s * x).tdiv T) = (s * x).tdiv T := IntWalk.i64_in _ (by unfold partI at hp0 hp1; omega)
          have hz : (0 : Int) ≤ k := by omega
          have hz2 : (k : Int) < xs.length := by omega
          have HSA := hide (World.ownsRow.alloc hS (.cells #[.int .i64 ((s * x).tdiv T)] 3))
          have HBA := hide (hb.alloc hsz (.cells #[.int .i64 ((s * x).tdiv T)] 3))
          have HLT := hide (World.ownsRow.lt hS)
          clear hp0 hp1 hx hS
          go_wp2_with (at_builtin; refine wpList_push_int rfl _ _ rfl w.heap.size u6 os rfl HSA.out wr.heap.size ((s * x).tdiv T) rfl (heap_alloc_new wr _) (by omega) (by simp; omega) ?_; intro g5 cap w5 hown hgrow hnew)
          have hb5 : Below w.heap.size w w5 := HBA.out.grown hgrow (by simp; omega) (fun k hk => (HLT.out k hk).1)
          rw [hol] at hown
          clear hgrow hnew
          go_wp2_with fail
          go_roundw
          case rel => exact ⟨k + 1, os ++ [partI s T x], hlt, by go_num, HO2, hown, hb5⟩
          case measure => simp [intOf]; omega
        · obtain rfl : k = xs.length := by omega
          obtain rfl : os = partsL xs s := by
            rw [HO.out, List.take_of_length_le (Nat.le_refl _)]
            unfold partsL
            rw [HT.out]
          have HPLN : Hid ((partsL xs s).length = xs.length) := hide (partsL_len xs s)
          obtain ⟨OB, ocap, e, hO0, hO1⟩ := hS.own (by rw [HPLN.out]; have := HSH.out.n1; omega)
          subst e
          have HS1 : Hid (IntSl wr w.heap.size (.slice (some ⟨OB, 0, none⟩) xs.length ocap) (partsL xs s)) := hide (by have := hS; rw [HPLN.out] at this; exact this)
          have hSm := l1Sum_any (some ⟨OB, 0, none⟩) ocap (partsL xs s) (wr.alloc (.cells #[] 3)) (hS.ints.below (by go_grown)) (by rw [HPLN.out]; exact hl)
          rw [HSH.out.parts_sum, HPLN.out] at hSm
          have hlf := HSH.out.left
          have hle : leftL xs s = s - sumL (partsL xs s) := rfl
          have HPR := hide HSH.out.part_range
          obtain ⟨L, hL⟩ : ∃ L : Nat, leftL xs s = L := ⟨(leftL xs s).toNat, by omega⟩
          rw [hL] at hlf hle H3
          obtain ⟨Sg, hSg⟩ : ∃ Sg, sumL (partsL xs s) = Sg := ⟨_, rfl⟩
          rw [hSg] at hSm hlf hle
          have hw1 : IntKind.i64.wrap (s - Sg) = L := by rw [← hle]; exact IntWalk.i64_in _ (by omega)
          obtain ⟨hlf0, hlf1, hlf2, hlf3⟩ := hlf
          have HSm := hide hSm
          simp only [Int.toNat_natCast] at H3
          have hSA : IntSl (wr.alloc (.cells #[] 3)) w.heap.size (.slice (some ⟨OB, 0, none⟩) xs.length ocap) (partsL xs s) := World.ownsRow.alloc HS1.out _
          have HSA := hide hSA
          have HG0 : Hid (IntSl (wr.alloc (.cells #[] 3)) w.heap.size (.slice (some ⟨wr.heap.size, 0, none⟩) 0 0) []) := hide (World.ownsRow_lit wr #[] 0 hsz (by unfold maxLen; omega) rfl)
          have HBA := hide (hb.alloc hsz (.cells #[] 3))
          have HRL : Hid ((remsL xs s).length = xs.length) := hide (remsL_len xs s)
          have HSEP0 : Hid ((Value.slice (some ⟨wr.heap.size, 0, none⟩) 0 0).ownBlock = none ∨ (Value.slice (some ⟨wr.heap.size, 0, none⟩) 0 0).ownBlock ≠ some OB) := hide (.inr (fun e => by have e : some wr.heap.size = some OB := e; injection e with e; omega))
          have hpl := HPLN.out
          have hn1 := HSH.out.n1
          clear hS hSm hle hSg hSA HO
          go_wp2_with fail
          refine HSm.out.mono ?_
          rintro e w5 ⟨rfl, rfl⟩
          go_wp2_with fail
          go_loopw [8, 9] (fun gv lv w2 => ∃ (m : Nat) (ps got : List Int), m ≤ L ∧ lv = .int .i64 ((L : Int) - m) ∧ Hid (got = (gfL (remsL xs s)).take m ∧ ps.length = xs.length ∧ shareOfL xs s = bumpAll ps (((gfL (remsL xs s)).take L).drop m) ∧ ∀ p ∈ ps, 0 ≤ p ∧ p ≤ 199980 + (m : Int)) ∧ Hid (gv.ownBlock = none ∨ gv.ownBlock ≠ some OB) ∧ IntSl w2 w.heap.size (.slice (some ⟨OB, 0, none⟩) xs.length ocap) ps ∧ IntSl w2 w.heap.size gv got ∧ Below w.heap.size w w2) (fun _ lv _ => (intOf lv).toNat)
          case atStart => exact ⟨0, partsL xs s, [], Nat.zero_le _, by simp, hide ⟨rfl, HPLN.out, by rw [H3.out]; rfl, fun p hp => by have := HPR.out p hp; omega⟩, HSEP0, HSA.out, HG0.out, HBA.out⟩
          case round =>
            clear HSEP0 HSA HG0 HBA HS1 HSm hb hsz hO1
            obtain ⟨m, ps, got, hm, rfl, HQ2, HSEP, hO, hG, hb⟩ := hrel
            have hsz := hb.size
            by_cases hmt : m < L
            · have hmd : decide ((0 : Int) < (L : Int) - m) = true := decide_eq_true (by omega)
              have hgol : got.length = m := by rw [HQ2.out.1, List.length_take, gfL_len, HRL.out]; omega
              obtain ⟨AG, cg, e, -, -⟩ := hG.form
              rw [hgol] at e
              subst e
              have HO := hide hO
              have HG := hide hG
              clear hO hG
              go_wp2_with fail
              obtain ⟨wo, rfl⟩ : ∃ wo : World, wo = wr := ⟨_, rfl⟩
              go_loopw [10, 11] (fun bv i wr => ∃ (k : Nat) (b : Int), k ≤ xs.length ∧ i = .int .i64 k ∧ bv = .int .i64 b ∧ Hid (FstBest (remsL xs s) got k b) ∧ IntSl wr w.heap.size (.slice (some ⟨OB, 0, none⟩) xs.length ocap) ps ∧ IntSl wr w.heap.size (.slice AG m cg) got ∧ Below w.heap.size w wr) (fun _ i _ => xs.length - (intOf i).toNat)
              case atStart => exact ⟨0, -1, Nat.zero_le _, rfl, rfl, hide (FstBest.start _ _), HO.out, HG.out, hb⟩
              case round =>
                clear HO HG hb hsz
                obtain ⟨k, b, hk, rfl, rfl, HB, hO, hG, hb⟩ := hrel
                have hsz := hb.size
                by_cases hlt : k < xs.length
                · obtain ⟨b1, off1, rfl, hbl1, hc1⟩ := (hA.below hb) k xs[k] (List.getElem?_eq_getElem hlt)
                  have hh : ∀ N, Calls Tryd.prog 68 #[.slice AG m cg, .int .i64 k] (wr.drewN N) fun e w' => e = .returned (.bool (hasI got k)) ∧ w' = wr.drewN N := fun N => by
                    have := l1Has_any AG cg got k (wr.drewN N) hG.ints (by omega)
                    rw [hgol] at this
                    exact this
                  have hx := HSH.out.rng _ (List.getElem_mem hlt)
                  have HX := hide (rems_getD (s := s) (List.getElem?_eq_getElem hlt))
                  rw [HT.out] at HX
                  have hmx := smul_range hs0 hs1 hx.1 hx.2
                  have hpx := part_rem (s := s) (t := T) (x := xs[k]) hmx.1 hT1
                  generalize xs[k] = x at *
                  obtain ⟨hm0, hm1⟩ := hmx
                  obtain ⟨-, hrx0, hrx1, -, -⟩ := hpx
                  have hrex : remI s T x = s * x % T := Int.tmod_eq_emod_of_nonneg hm0
                  have hw1 : IntKind.i64.wrap (s * x) = s * x := IntWalk.i64_in _ (by omega)
                  have hw3 : IntKind.i64.wrap ((s * x).tmod T) = (s * x).tmod T := IntWalk.i64_in _ (by unfold remI at hrx0 hrx1; omega)
                  rw [hrex] at HX
                  have hz : (0 : Int) ≤ k := by omega
                  have hz2 : (k : Int) < xs.length := by omega
                  have HO := hide hO
                  have HG := hide hG
                  clear hO hG hx hrx0 hrx1 hrex
                  cases hhas : hasI got k with
                  | true =>
                    have HB2 := hide (HB.out.skip (hasI_iff.1 hhas))
                    rw [hhas] at hh
                    go_wp2_with fail
                    go_quiet ((go_at_call 68; exact Calls.quiet_of_same (hh _)))
                    go_wp2_with fail
                    go_roundw
                    case rel => exact ⟨k + 1, b, hlt, by go_num, rfl, HB2, HO.out, HG.out, ⟨hb.os, hb.tape, hb.output, hb.size, hb.block⟩⟩
                    case measure => simp [intOf]; omega
                  | false =>
                    have hng := hasI_false.1 hhas
                    rw [hhas] at hh
                    rcases HB.out.cases with rfl | ⟨j, rfl, hjk⟩
                    · have HB2 := hide (HB.out.first hng)
                      clear hng
                      go_wp2_with fail
                      go_quiet ((go_at_call 68; exact Calls.quiet_of_same (hh _)))
                      go_wp2_with fail
                      go_roundw
                      case rel => exact ⟨k + 1, k, hlt, by go_num, rfl, HB2, HO.out, HG.out, ⟨hb.os, hb.tape, hb.output, hb.size, hb.block⟩⟩
                      case measure => simp [intOf]; omega
                    · have hjl : j < xs.length := by omega
                      obtain ⟨b2, off2, e2, hbl2, hc2⟩ := (hA.below hb) j xs[j] (List.getElem?_eq_getElem hjl)
                      injection e2 with e2
                      injection e2 with e21 e22
                      subst e21 e22
                      have hy := HSH.out.rng _ (List.getElem_mem hjl)
                      have HY := hide (rems_getD (s := s) (List.getElem?_eq_getElem hjl))
                      rw [HT.out] at HY
                      have hmy := smul_range hs0 hs1 hy.1 hy.2
                      have hpy := part_rem (s := s) (t := T) (x := xs[j]) hmy.1 hT1
                      generalize xs[j] = y at *
                      obtain ⟨hn0, hn1'⟩ := hmy
                      obtain ⟨-, hry0, hry1, -, -⟩ := hpy
                      have hrey : remI s T y = s * y % T := Int.tmod_eq_emod_of_nonneg hn0
                      have hw4 : IntKind.i64.wrap (s * y) = s * y := IntWalk.i64_in _ (by omega)
                      have hw5 : IntKind.i64.wrap ((s * y).tmod T) = (s * y).tmod T := IntWalk.i64_in _ (by unfold remI at hry0 hry1; omega)
                      rw [hrey] at HY
                      have hjd : decide ((j : Int) < 0) = false := decide_eq_false (by omega)
                      have hj1 : (0 : Int) ≤ j := by omega
                      have hj2 : (j : Int) < xs.length := by omega
                      clear hy hry0 hry1 hrey hjl
                      by_cases hxy : s * y % T < s * x % T
                      · have hxd : decide (s * y % T < s * x % T) = true := decide_eq_true hxy
                        have HB2 := hide (HB.out.take hng (by rw [HX.out, HY.out]; exact hxy))
                        clear hng
                        go_wp2_with fail
                        go_quiet ((go_at_call 68; exact Calls.quiet_of_same (hh _)))
                        go_wp2_with fail
                        go_roundw
                        case rel => exact ⟨k + 1, k, hlt, by go_num, rfl, HB2, HO.out, HG.out, ⟨hb.os, hb.tape, hb.output, hb.size, hb.block⟩⟩
                        case measure => simp [intOf]; omega
                      · have hxd : decide (s * y % T < s * x % T) = false := decide_eq_false hxy
                        have HB2 := hide (HB.out.keep (by rw [HX.out, HY.out]; omega))
                        clear hng
                        go_wp2_with fail
                        go_quiet ((go_at_call 68; exact Calls.quiet_of_same (hh _)))
                        go_wp2_with fail
                        go_roundw
                        case rel => exact ⟨k + 1, j, hlt, by go_num, rfl, HB2, HO.out, HG.out, ⟨hb.os, hb.tape, hb.output, hb.size, hb.block⟩⟩
                        case measure => simp [intOf]; omega
                · obtain rfl : k = xs.length := by omega
                  obtain ⟨q, rfl, hq, hgq⟩ := FstBest.done (rs := remsL xs s) (m := m) (b := b) (by rw [HRL.out]; omega) (by rw [← HQ2.out.1, HRL.out]; exact HB.out)
                  rw [HRL.out] at hq
                  have hqp : q < ps.length := by rw [HQ2.out.2.1]; exact hq
                  have HD : Hid (((gfL (remsL xs s)).take L).drop m = (q : Int) :: ((gfL (remsL xs s)).take L).drop (m + 1)) := hide (by
                    have h1 : ((gfL (remsL xs s)).take L)[m]? = some (q : Int) := by rw [List.getElem?_take, if_pos hmt]; exact hgq
                    obtain ⟨h2, h3⟩ := List.getElem?_eq_some_iff.1 h1
                    rw [List.drop_eq_getElem_cons h2, h3])
                  have HGT : Hid (got ++ [(q : Int)] = (gfL (remsL xs s)).take (m + 1)) := hide (by rw [HQ2.out.1, List.take_add_one, hgq]; rfl)
                  have HBP : Hid (bump ps q = ps.set q (ps[q] + 1)) := hide (by simp [bump, hqp])
                  have hv := HQ2.out.2.2.2 _ (List.getElem_mem hqp)
                  have HPV := hide (List.getElem?_eq_getElem hqp)
                  generalize ps[q] = v at *
                  have HQ3 : Hid (got ++ [(q : Int)] = (gfL (remsL xs s)).take (m + 1) ∧ (ps.set q (v + 1)).length = xs.length ∧ shareOfL xs s = bumpAll (ps.set q (v + 1)) (((gfL (remsL xs s)).take L).drop (m + 1)) ∧ ∀ p ∈ ps.set q (v + 1), 0 ≤ p ∧ p ≤ 199980 + ((m + 1 : Nat) : Int)) := hide ⟨HGT.out, by rw [List.length_set]; exact HQ2.out.2.1, by
                    rw [HQ2.out.2.2.1, HD.out, ← HBP.out]
                    rfl, fun p hp => by
                    rcases List.mem_or_eq_of_mem_set hp with hp | rfl
                    · have := HQ2.out.2.2.2 p hp
                      omega
                    · omega⟩
                  have hw6 : IntKind.i64.wrap ((L : Int) - m - 1) = (L : Int) - m - 1 := IntWalk.i64_in _ (by omega)
                  have hw7 : IntKind.i64.wrap (v + 1) = v + 1 := IntWalk.i64_in _ (by omega)
                  have HGA := hide (World.ownsRow.alloc hG (.cells #[.int .i64 q] 3))
                  have HOA : Hid (IntSl (wr.alloc (.cells #[.int .i64 q] 3)) w.heap.size (.slice (some ⟨OB, 0, none⟩) xs.length ocap) ps) := hide (World.ownsRow.alloc hO _)
                  have HBA := hide (hb.alloc hsz (.cells #[.int .i64 q] 3))
                  have HLT := hide (World.ownsRow.lt hG)
                  have HOBl : Hid (OB < wr.heap.size) := hide (World.ownsRow.lt hO _ rfl).2
                  have hz3 : (0 : Int) ≤ q := by omega
                  have hz4 : (q : Int) < xs.length := by omega
                  have HSO : Hid ((Value.slice (some ⟨OB, 0, none⟩) xs.length ocap).ownBlock = none ∨ (Value.slice (some ⟨OB, 0, none⟩) xs.length ocap).ownBlock ≠ (Value.slice AG m cg).ownBlock) := hide (.inr (fun e => by
                    have e : some OB = (Value.slice AG m cg).ownBlock := e
                    rcases HSEP.out with h | h
                    · rw [h] at e; cases e
                    · exact h e.symm))
                  clear hv hqp hgq hO hG
                  go_wp2_with (at_builtin; refine wpList_push_int rfl _ _ rfl w.heap.size (.slice AG m cg) got rfl HGA.out wr.heap.size (q : Int) rfl (heap_alloc_new wr _) (by omega) (by simp; omega) ?_; intro g5 cap5 w5 hown hgrow hnew; have hO5 := IntSl.row HOA.out hgrow HSO.out; have hcp := IntSl.cellAt hO5 HPV.out; have hfp := IntSl.frozenAt hO5 q)
                  have hb5 : Below w.heap.size w w5 := HBA.out.grown hgrow (by simp; omega) (fun k hk => (HLT.out k hk).1)
                  rw [hgol] at hown
                  have hgO : ¬ g5 = OB := fun e => by
                    rcases hnew with h | h
                    · rcases HSEP.out with h2 | h2
                      · rw [h2] at h; cases h
                      · exact h2 (e ▸ h)
                    · have h5 := HOBl.out
                      have h6 : g5 = wr.heap.size + 1 := by simpa using h
                      omega
                  have HSEP2 : Hid ((Value.slice (some ⟨g5, 0, none⟩) (m + 1) cap5).ownBlock = none ∨ (Value.slice (some ⟨g5, 0, none⟩) (m + 1) cap5).ownBlock ≠ some OB) := hide (.inr (fun e => by
                    have e : some g5 = some OB := e
                    injection e with e
                    exact hgO e))
                  have g1 := IntSl.grownSet hO5 q (v + 1)
                  have HP1 := hide (IntSl.store hO5 q (v + 1))
                  have HG1 := hide (IntSl.row hown g1 HSEP2.out)
                  have HB6 := hide (hb5.grown g1 hb5.size (fun k hk => by injection hk with hk; omega))
                  clear hgrow hnew hown hO5 g1
                  go_roundw
                  case rel => exact ⟨m + 1, ps.set q (v + 1), got ++ [(q : Int)], by omega, by rw [show ((L : Int) - m - 1) = (L : Int) - ((m + 1 : Nat) : Int) from by omega], HQ3, HSEP2, HP1.out, HG1.out, HB6.out⟩
                  case measure => simp [intOf]; omega
            · have hmd : decide ((0 : Int) < (L : Int) - m) = false := decide_eq_false (by omega)
              have H4 : Hid (shareOfL xs s = ps) := hide (by
                have := HQ2.out.2.2.1
                rw [List.drop_of_length_le (by rw [List.length_take]; omega)] at this
                exact this)
              go_wp2_with fail
              refine bodyPost_ret (results_tmp rfl _ _ _) rfl ⟨_, rfl, by rw [H4.out]; exact hO, hb⟩
end Go.Proofs.YteocmjffjinphaaDoor
