/- For all drawn bytes the law of SeatsLeast answers true, and its argument reads as it did.
   Conditions: none. -/
import Derived.Test.YtgpcbigaeodhfaaDoorLawKit
import Derived.Test.YtgpcbigaeodhfaaDoorDrawQuar
import Derived.Test.YtgpcbigaeodhfaaDoorGuests14
import Derived.Test.YtgpcbigaeodhfaaDoorGuests13
import Derived.Test.YtgpcbigaeodhfaaDoorSeatMath2
import Derived.Test.YtgpcbigaeodhfaaDoorSpread0
import Derived.Test.YtgpcbigaeodhfaaDoorZeros
namespace Go.Proofs.YtgpcbigaeodhfaaDoor
open Go.RowKit Go.ChangeShapes Go.WideShapes Go.ChangeAt Go.Deep

theorem less_of {g : Int} {q : List Int} {a b : Nat} (hQ : quarOk g q = true) (ha : a < q.length) (hb : b < a) (hh : hasB (q.getD a 0) b = true) : Less g q ((q.set a (q.getD a 0 - 2 ^ b)).set b (q.getD b 0 - 2 ^ a)) a b := by
  have hg := quarOk_g hQ
  have hb' : b < q.length := by omega
  have ha6 : a < 6 := by omega
  have hb6 : b < 6 := by omega
  have hh2 := quarOk_sym hQ ha hb' hh
  have ra := quarOk_getD hQ a
  have rb := quarOk_getD hQ b
  have pa := pow_range a ha6
  have pb := pow_range b hb6
  have oa := one_out ra.1 ra.2.2 hb6 hh
  have ob := one_out rb.1 rb.2.2 ha6 hh2
  have da := dropB ra.1 ra.2.2 (show 0 ≤ (2 : Int) ^ b by omega) pb.2
  have db := dropB rb.1 rb.2.2 (show 0 ≤ (2 : Int) ^ a by omega) pa.2
  have hlen : ((q.set a (q.getD a 0 - 2 ^ b)).set b (q.getD b 0 - 2 ^ a)).length = q.length := by simp
  have hget : ∀ i, i < q.length → ((q.set a (q.getD a 0 - 2 ^ b)).set b (q.getD b 0 - 2 ^ a)).getD i 0 = if i = b then q.getD b 0 - 2 ^ a else if i = a then q.getD a 0 - 2 ^ b else q.getD i 0 := fun i hi => by
    rw [List.getD_eq_getElem?_getD, List.getElem?_set]
    by_cases e1 : b = i
    · subst e1
      rw [if_pos rfl, if_pos (by simp; omega), if_pos rfl]; rfl
    · rw [if_neg e1, if_neg (fun e => e1 e.symm), List.getElem?_set]
      by_cases e2 : a = i
      · subst e2
        rw [if_pos rfl, if_pos (by omega), if_pos rfl]; rfl
      · rw [if_neg e2, if_neg (fun e => e2 e.symm), ← List.getD_eq_getElem?_getD]
  have hbits : ∀ i j : Nat, i < q.length → j < 6 → hasB (((q.set a (q.getD a 0 - 2 ^ b)).set b (q.getD b 0 - 2 ^ a)).getD i 0) j = (hasB (q.getD i 0) j && !((i == a && j == b) || (i == b && j == a))) := fun i j hi hj => by
    rw [hget i hi]
    by_cases e1 : i = b
    · subst e1
      rw [if_pos rfl, ← ob.1, db.2 j hj, hasB_pow ha6 hj]
      have : (i == a) = false := by simp; omega
      rw [this]
      by_cases e : a = j
      · subst e; simp
      · have e' : (a == j) = false := by simp; exact e
        have e'' : (j == a) = false := by simp; exact fun h => e h.symm
        rw [e', e'']; simp
    · rw [if_neg e1]
      by_cases e2 : i = a
      · subst e2
        rw [if_pos rfl, ← oa.1, da.2 j hj, hasB_pow hb6 hj]
        have : (i == b) = false := by simp; exact e1
        rw [this]
        by_cases e : b = j
        · subst e; simp
        · have e' : (b == j) = false := by simp; exact e
          have e'' : (j == b) = false := by simp; exact fun h => e h.symm
          rw [e', e'']; simp
      · rw [if_neg e2]
        have h1 : (i == a) = false := by simp; exact e2
        have h2 : (i == b) = false := by simp; exact e1
        rw [h1, h2]; simp
  refine ⟨hQ, ?_, hlen, ha, hb', by omega, hbits⟩
  unfold quarOk
  rw [hlen, decide_eq_true hg.2.2, inR_iff.2 ⟨hg.1, hg.2.1⟩]
  have hr : rangeOk (full g) ((q.set a (q.getD a 0 - 2 ^ b)).set b (q.getD b 0 - 2 ^ a)) = true := by
    rw [rangeOk_iff]
    intro i hi
    rw [hlen] at hi
    rw [hget i hi, inR_iff]
    have ri := quarOk_getD hQ i
    split
    · omega
    · split
      · omega
      · exact ⟨ri.1, ri.2.1⟩
  rw [hr]
  simp only [Bool.true_and]
  rw [allN_iff]
  intro i hi
  unfold quarFine
  rw [hlen, allN_iff]
  intro j hj
  unfold quarBad
  rw [hbits i j hi (by omega), hbits j i hj (by omega)]
  by_cases e : j = i
  · subst e
    rw [quarOk_self hQ hj]
    simp
  · cases hij : hasB (q.getD i 0) j with
    | false => simp
    | true =>
      rw [quarOk_sym hQ hi hj hij, decide_eq_false e]
      cases i == a <;> cases i == b <;> cases j == a <;> cases j == b <;> rfl

theorem implSeatsLeast_at (g : Int) (A : Option Addr) (c n : Nat) (q : List Int) (b : Int) (w : World) (hn : q.length = n) (hb : Hid (seatsLeastL g q = b)) (hA : IntsAt w A q) (hl : n ≤ 1048576) :
    Calls Tryd.prog 30 #[.int .i64 g, .slice A n c] w fun e w' => e = .returned (.int .i64 b) ∧ Below w.heap.size w w' := by
  subst hn
  have := implSeatsLeast_any g A c q w hA hl
  rwa [hb.out] at this

def DrawnSeatsLeast (w : World) (e : Ending) (w' : World) : Prop := ∃ (gs : Int) (ls : List Int) (g c : Nat), e = .returned (.tuple #[.int .i64 gs, .slice (some ⟨g, 0, none⟩) ls.length c]) ∧
  IntsAt w' (some ⟨g, 0, none⟩) ls ∧ ls.length ≤ 7 ∧ 0 ≤ gs ∧ gs ≤ 6 ∧ Below w.heap.size w w'

set_option maxHeartbeats 1000000 in
theorem drawSeatsLeast_any (A : Option Addr) (c m : Nat) (w : World) (hB : BytesIn w A m) (hm : m ≤ 9223372036854775807) (hc : m ≤ c) (hc2 : c ≤ 9223372036854775807) :
    Calls Tryd.prog 39 #[.slice A m c] w (DrawnSeatsLeast w) := by
  go_enter Tryd.func39, Tryd.ntmps39
  go_wp2_with fail
  refine (open_any A c m w hB hm hc hc2).mono ?_
  rintro e w1 ⟨rfl, hR1, hb1⟩
  have hz1 := hb1.size
  go_wp2_with fail
  refine (l20Quarrels_any w.heap.size 0 9 _ hR1 (by omega) (by omega)).mono ?_
  rintro e w2 ⟨gs, ls, g, c2, rfl, hS2, hl7, hle, hg0, hg6, hR2, hg2⟩
  have hb2 : Below w.heap.size w w2 := hb1.grown hg2 hz1 (fun j hj => by injection hj with hj; omega)
  have HS2 := hide (IntSl.ints hS2)
  clear hg2 hS2 hle
  go_wp2_with fail
  refine bodyPost_ret (results_tmp2 rfl _ _ _) rfl ⟨gs, ls, g, c2, rfl, HS2.out, hl7, hg0, hg6, hb2⟩

set_option maxRecDepth 100000 in
set_option maxHeartbeats 4000000 in
theorem lawSeatsLeast_any (A : Option Addr) (c m : Nat) (w : World) (hB : BytesIn w A m) (hc : m ≤ c) (hc2 : c ≤ 9223372036854775807) :
    Calls Tryd.prog 9 #[.slice A m c] w fun e w' => e = .returned (.bool true) ∧ Below w.heap.size w w' := by
  by_cases hlen : (1048576 : Int) < m
  · go_enter Tryd.func9, Tryd.ntmps9
    go_wp2_with fail
    go_ret
    exact ⟨rfl, by go_grown⟩
  · go_enter Tryd.func9, Tryd.ntmps9
    go_wp2_with fail
    refine (drawSeatsLeast_any A c m w hB (by omega) hc hc2).mono ?_
    rintro e w1 ⟨gs, ls, g, c1, rfl, hI, hl7, hg0, hg6, hb1⟩
    have HI1 := hide hI
    obtain ⟨v, HV⟩ : ∃ v, Hid (seatsLeastL gs ls = v) := ⟨_, hide rfl⟩
    have hbb : (v != v) = false := by simp
    clear hI
    go_wp2_with fail
    refine (implSeatsLeast_any _ _ _ _ _ HI1.out (by omega)).mono ?_
    rintro e w2 ⟨rfl, hB2⟩
    rw [HV.out]
    have hb2 := next hb1 hB2
    have HI2 := hide (HI1.out.below hB2)
    clear hB2 HI1
    go_wp2_with fail
    refine (specSeatsLeast_any _ _ _ _ _ HI2.out (by omega)).mono ?_
    rintro e w3 ⟨rfl, hB3⟩
    rw [HV.out]
    have hb3 := next hb2 hB3
    have HI3 := hide (HI2.out.below hB3)
    clear hB3 HI2
    cases hq : quarOk gs ls with
    | false =>
      have hv : seatsLeastL gs ls = -1 := by unfold seatsLeastL; rw [hq]; rfl
      rw [HV.out] at hv
      subst hv
      go_wp2_with fail
      refine (alive_any _).mono ?_
      rintro e we ⟨rfl, hBe⟩
      go_wp2_with fail
      go_ret
      exact ⟨rfl, next hb3 hBe⟩
    | true =>
      have HQ := hide hq
      have hgl := (quarOk_g hq).2.2
      have hg := quarOk_g hq
      have hp := pow64 hg.1 hg.2.1
      have hv0 : 0 ≤ v ∧ v ≤ 6 := by
        rw [← HV.out]
        have hf := full_range hg.1 hg.2.1
        have hfp := full_pow (g := gs)
        have h1 := clique_least hq
        have h2 : 0 ≤ cliqueMostL gs ls := by unfold cliqueMostL; rw [if_pos hq]; exact (mostGo_range _ _).1
        have h3 := tb_sz hq (x := full gs) hf.1 (by omega)
        rw [← tb_full hq] at h3
        have h4 := sz_range hf.1 hf.2
        omega
      have hvn : ¬ v < 0 := by omega
      have hv6 : v ≤ 6 := hv0.2
      have hz1 : 0 ≤ v := hv0.1
      have hwv : IntKind.i64.wrap (v - 1) = v - 1 := IntWalk.i64_in _ (by omega)
      clear hq hv0 hp hg
      go_wp2_with fail
      go_loopw [6] (fun i wr => ∃ k : Nat, k ≤ ls.length ∧ i = .int .i64 k ∧ Below w3.heap.size w3 wr) (fun i _ => ls.length - (intOf i).toNat)
      case atStart => exact ⟨0, Nat.zero_le _, rfl, Below.refl _ _⟩
      case round =>
        obtain ⟨k, hk, rfl, hbk⟩ := hrel
        by_cases hlt : k < ls.length
        · have hz2 : (k : Int) < gs := by omega
          have hz3 : (k : Int) < ls.length := by omega
          have hz : (0 : Int) ≤ k := by omega
          have hk6 : k < 6 := by omega
          have HBk := hide hbk
          clear hbk
          go_wp2_with fail
          go_loopw [7] (fun i wr => ∃ m : Nat, m ≤ k ∧ i = .int .i64 m ∧ Below w3.heap.size w3 wr) (fun i _ => k - (intOf i).toNat)
          case atStart => exact ⟨0, Nat.zero_le _, rfl, HBk.out⟩
          case round =>
            clear HBk
            obtain ⟨m, hm, rfl, hbm⟩ := hrel
            by_cases hmk : m < k
            · have hmz : (m : Int) < k := by omega
              have hmz0 : (0 : Int) ≤ m := by omega
              have hmz3 : (m : Int) < ls.length := by omega
              have hm6 : m < 6 := by omega
              obtain ⟨b4, off4, he, hbl4, hr4⟩ := (HI3.out.below hbm) k ls[k] (List.getElem?_eq_getElem hlt)
              injection he with he
              injection he with he1 he2
              subst he1 he2
              rw [Nat.zero_add] at hr4
              have HXk : Hid (ls.getD k 0 = ls[k]) := hide (by simp [hlt])
              have HLk : Hid (ls[k]? = some ls[k]) := hide (List.getElem?_eq_getElem hlt)
              have hrk := quarOk_getD HQ.out k
              have hrm := quarOk_getD HQ.out m
              rw [HXk.out] at hrk
              generalize ls[k] = x at *
              obtain ⟨y, HXm⟩ : ∃ y, Hid (ls.getD m 0 = y) := ⟨_, hide rfl⟩
              have HLm : Hid (ls[m]? = some y) := hide (by rw [← HXm.out, List.getD_eq_getElem?_getD, List.getElem?_eq_getElem (show m < ls.length by omega)]; rfl)
              rw [HXm.out] at hrm
              have hx0 := hrk.1
              have hx1 := hrk.2.2
              have hy0 := hrm.1
              have hy1 := hrm.2.2
              have hdv := (div_range x m hx0 hx1).1
              have HBm := hide hbm
              clear hrk hrm hbm
              cases hbit : hasB x m with
              | false =>
                have hf : (x / 2 ^ m % 2 == 1) = false := hbit
                clear hbit
                go_wp2_with fail
                go_roundw
                case rel => exact ⟨m + 1, by omega, by go_num, HBm.out⟩
                case measure => simp [intOf]; omega
              | true =>
                have hf : (x / 2 ^ m % 2 == 1) = true := hbit
                have HLS : Hid (Less gs ls ((ls.set k (x - 2 ^ m)).set m (y - 2 ^ k)) k m) := hide (by
                  have := less_of HQ.out hlt hmk (by rw [HXk.out]; exact hbit)
                  rwa [HXk.out, HXm.out] at this)
                obtain ⟨t, HT⟩ : ∃ t, Hid (seatsLeastL gs ((ls.set k (x - 2 ^ m)).set m (y - 2 ^ k)) = t) := ⟨_, hide rfl⟩
                have ht : t = v ∨ t = v - 1 := by
                  have := least_less HLS.out
                  rwa [HT.out, HV.out] at this
                have pm := pow_range m hm6
                have pk := pow_range k hk6
                have hpm1 := pm.1
                have hpm2 := pm.2
                have hpk1 := pk.1
                have hpk2 := pk.2
                have hw1 : IntKind.i64.wrap ((2 : Int) ^ m) = 2 ^ m := IntWalk.i64_in _ (by omega)
                have hw2 : IntKind.i64.wrap ((2 : Int) ^ k) = 2 ^ k := IntWalk.i64_in _ (by omega)
                have hw3 : IntKind.i64.wrap (x - 2 ^ m) = x - 2 ^ m := IntWalk.i64_in _ (by omega)
                have hw4 : IntKind.i64.wrap (y - 2 ^ k) = y - 2 ^ k := IntWalk.i64_in _ (by omega)
                have HL0 : Hid (IntSl (wr.alloc (.cells #[] 3)) wr.heap.size (.slice (some ⟨wr.heap.size, 0, none⟩) 0 0) []) := hide (World.ownsRow_lit wr #[] 0 (Nat.le_refl _) (by unfold maxLen; omega) rfl)
                have HX1 : Hid (IntsAt (wr.alloc (.cells #[] 3)) (some ⟨g, 0, none⟩) ls) := hide ((HI3.out.below HBm.out).below (by go_grown))
                clear hbit pm pk
                go_wp2_with (at_builtin; refine wpList_spread_int rfl _ _ rfl wr.heap.size (.slice (some ⟨wr.heap.size, 0, none⟩) 0 0) [] rfl HL0.out (by simp) ⟨g, 0, none⟩ ls.length c1 ls rfl rfl HX1.out (by simp; omega) (by simp) ?_; intro g1 cap w5 hown hgrow; have HO5 : Hid (IntSl w5 wr.heap.size (.slice (some ⟨g1, 0, none⟩) ls.length cap) ls) := hide (by rw [List.length_nil, Nat.zero_add] at hown; exact hown); have HB5 : Hid (Below w3.heap.size w3 w5) := hide ((HBm.out.alloc HBm.out.size _).grown hgrow (by have := HBm.out.size; simp; omega) (fun j hj => by have hj : some wr.heap.size = some j := hj; injection hj with hj; have := HBm.out.size; omega)); clear hown hgrow; simp only [List.length_nil, Nat.zero_add])
                have hc1' := IntSl.cellAt HO5.out HLk.out
                have hf1 := IntSl.frozenAt HO5.out k
                have hgl5 := (World.ownsRow.lt HO5.out g1 rfl).2
                have HO6 := hide (IntSl.store HO5.out k (x - 2 ^ m))
                have HG6 := hide (IntSl.grownSet HO5.out k (x - 2 ^ m))
                have hlo5 := (World.ownsRow.lt HO5.out g1 rfl).1
                refine still_tail_drew 10 (by kernel_rfl) (by kernel_rfl) ?_
                simp only [List.take_succ_cons, List.take_zero, List.drop_succ_cons, List.drop_zero]
                repeat still_step
                refine wpStill_nil ?_
                go_wp2_with fail
                clear hc1' hf1 hw1 hw3 hdv
                obtain ⟨w6, hW6⟩ : ∃ w6, (w5.setCell ⟨g1, k, none⟩ (.int .i64 (x - 2 ^ m))).drew = w6 := ⟨_, rfl⟩
                have HS6 : Hid (IntSl w6 wr.heap.size (.slice (some ⟨g1, 0, none⟩) ls.length cap) (ls.set k (x - 2 ^ m))) := hide (by rw [← hW6]; exact HO6.out)
                have HB6 : Hid (Below w3.heap.size w3 w6) := hide (by rw [← hW6]; exact (HB5.out.grown HG6.out HB5.out.size (fun j hj => by injection hj with hj; have := HBm.out.size; omega)).drew)
                rw [hW6]
                clear hW6 HO5 HB5 HO6 HG6
                have hym : (ls.set k (x - 2 ^ m))[m]? = some y := by rw [List.getElem?_set_ne (by omega)]; exact HLm.out
                have hc2' := IntSl.cellAt HS6.out hym
                have hf2 := IntSl.frozenAt HS6.out m
                have hgl2 := (World.ownsRow.lt HS6.out g1 rfl).2
                have HS7 := hide (IntSl.store HS6.out m (y - 2 ^ k))
                have HG7 := hide (IntSl.grownSet HS6.out m (y - 2 ^ k))
                clear hym
                have hmq0 : (0 : Int) ≤ m := by omega
                have hmq1 : (m : Int) < ls.length := by omega
                have hmq2 : (m : Int) < gs := by omega
                refine still_tail_drew 10 (by kernel_rfl) (by kernel_rfl) ?_
                simp only [List.take_succ_cons, List.take_zero, List.drop_succ_cons, List.drop_zero]
                repeat still_step
                refine wpStill_nil ?_
                go_wp2_with fail
                clear hc2' hf2 hgl2 hw2 hw4
                have HC7 : Hid (IntsAt (w6.setCell ⟨g1, m, none⟩ (.int .i64 (y - 2 ^ k))).drew (some ⟨g1, 0, none⟩) ((ls.set k (x - 2 ^ m)).set m (y - 2 ^ k))) := hide (IntSl.ints (w := (w6.setCell ⟨g1, m, none⟩ (.int .i64 (y - 2 ^ k))).drew) HS7.out)
                have HB7 : Hid (Below w3.heap.size w3 (w6.setCell ⟨g1, m, none⟩ (.int .i64 (y - 2 ^ k))).drew) := hide (HB6.out.grown HG7.out HB6.out.size (fun j hj => by injection hj with hj; have := HBm.out.size; omega)).drew
                refine (implSeatsLeast_at _ _ _ _ _ _ _ (by simp) HT HC7.out (by omega)).mono ?_
                rintro e w8 ⟨rfl, hB8⟩
                have HB8 := hide (next HB7.out hB8)
                clear hB8
                rcases ht with rfl | rfl
                · go_wp2_with fail
                  go_roundw
                  case rel => exact ⟨m + 1, by omega, by go_num, HB8.out⟩
                  case measure => simp [intOf]; omega
                · have hn1 : (v - 1 != v) = true := by simp; omega
                  have hn2 : (v - 1 != v - 1) = false := by simp
                  go_wp2_with fail
                  go_roundw
                  case rel => exact ⟨m + 1, by omega, by go_num, HB8.out⟩
                  case measure => simp [intOf]; omega
            · have hmz : ¬ (m : Int) < k := by omega
              go_wp2_with fail
              go_roundw
              case rel => exact ⟨k + 1, hlt, by go_num, hbm⟩
              case measure => simp [intOf]; omega
        · obtain rfl : k = ls.length := by omega
          have hz2 : ¬ ((ls.length : Nat) : Int) < gs := by omega
          have hb4 := next hb3 hbk
          have hmk : ∀ W, (Instr.makeSlice 24 (.int .i64 gs) (.int .i64 gs)).run Tryd.prog W = .ok (.slice (some ⟨W.heap.size, 0, none⟩) ls.length ls.length) (W.alloc (.cells (madeCells #[.int .i64 0] ls.length) 3)) := fun W => by rw [← hgl]; exact make_ints ls.length (by omega) W
          have HZ := hide (IntSl.ints (zeros_tabG wr (lo := wr.heap.size) ls.length (Nat.le_refl _) (by omega)))
          have HLN : Hid (seatsLeastL gs (tab ls.length (fun _ => 0)) = min gs 1) := hide (by rw [← hgl]; exact least_none (by omega))
          have hbz : Below w3.heap.size w3 (wr.alloc (.cells (madeCells #[.int .i64 0] ls.length) 3)) := hbk.alloc hbk.size _
          obtain ⟨mm, HMM⟩ : ∃ mm, Hid (min gs 1 = mm) := ⟨_, hide rfl⟩
          rw [HMM.out] at HLN
          have hmm1 : min gs 1 = mm := HMM.out
          have hmm2 : (if gs < 1 then gs else (1 : Int)) = mm := by rw [← HMM.out]; split <;> omega
          have hmm3 : (if 1 < gs then (1 : Int) else gs) = mm := by rw [← HMM.out]; split <;> omega
          have hme : (mm == mm) = true := by simp
          go_wp2_with fail
          refine (implSeatsLeast_at _ _ _ _ _ _ _ (tab_len _ _) HLN HZ.out (by omega)).mono ?_
          rintro e w8 ⟨rfl, hB8⟩
          go_wp2_with fail
          go_ret
          exact ⟨by simp, next hb3 (next hbz hB8)⟩
end Go.Proofs.YtgpcbigaeodhfaaDoor
