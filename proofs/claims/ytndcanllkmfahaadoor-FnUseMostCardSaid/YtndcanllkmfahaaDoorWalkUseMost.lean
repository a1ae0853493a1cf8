/- For all drawn bytes the law of UseMost answers true, and its argument reads as it did.
   Conditions: none. -/
import Derived.Test.YtndcanllkmfahaaDoorLawKit
import Derived.Test.YtndcanllkmfahaaDoorLotKit
import Derived.Test.YtndcanllkmfahaaDoorTakeMath4
namespace Go.Proofs.YtndcanllkmfahaaDoor
open Go.RowKit Go.ChangeShapes Go.WideShapes Go.ChangeAt

def minB (l : List Lot) (ws : List Int) : Nat → Int
  | 0 => useBoundL l ws 0
  | n + 1 => min (minB l ws n) (useBoundL l ws ((n : Int) + 1))
theorem minB_le {l : List Lot} {ws : List Int} : ∀ (n D : Nat), D ≤ n → minB l ws n ≤ useBoundL l ws D
  | 0, D, h => by
    obtain rfl : D = 0 := by omega
    exact Int.le_refl _
  | n + 1, D, h => by
    unfold minB
    by_cases e : D = n + 1
    · subst e
      have : ((n + 1 : Nat) : Int) = (n : Int) + 1 := by omega
      rw [this]
      omega
    · have := minB_le (l := l) (ws := ws) n D (by omega)
      omega
theorem minB_ge {l : List Lot} {ws : List Int} (h : stockOk l ws = true) : ∀ n : Nat, n ≤ 6 → useMostL l ws ≤ minB l ws n
  | 0, _ => useMost_le h (inR_iff.2 (by omega))
  | n + 1, hn => by
    have a := minB_ge h n (by omega)
    have b := useMost_le h (day := (n : Int) + 1) (inR_iff.2 (by omega))
    unfold minB
    omega
theorem minB_all {l : List Lot} {ws : List Int} (h : stockOk l ws = true) : minB l ws 6 = useMostL l ws := by
  obtain ⟨D, a, b, c⟩ := useMost_reach h
  obtain ⟨d, rfl⟩ : ∃ d : Nat, D = d := ⟨D.toNat, by omega⟩
  have := minB_le (l := l) (ws := ws) 6 d (by omega)
  have := minB_ge h 6 (Nat.le_refl _)
  omega

theorem implUseMost_at (A B : Option Addr) (c d n : Nat) (l : List Lot) (wants : List Int) (v : Int) (w : World) (hn : l.length = n) (hv : Hid (useMostL l wants = v)) (hA : LotsAt w A l) (hl : n ≤ 1048576) (hB : IntsAt w B wants) (hw : wants.length ≤ 1048576) :
    Calls Tryd.prog 27 #[.slice A n c, .slice B wants.length d] w fun e w' => e = .returned (.int .i64 v) ∧ Below w.heap.size w w' := by
  subst hn
  have := implUseMost_any A B c d l wants w hA hl hB hw
  rwa [hv.out] at this

set_option maxRecDepth 100000 in
set_option maxHeartbeats 4000000 in
theorem lawUseMost_any (A : Option Addr) (c m : Nat) (w : World) (hB : BytesIn w A m) (hc : m ≤ c) (hc2 : c ≤ 9223372036854775807) :
    Calls Tryd.prog 8 #[.slice A m c] w fun e w' => e = .returned (.bool true) ∧ Below w.heap.size w w' := by
  by_cases hlen : (1048576 : Int) < m
  · go_enter Tryd.func8, Tryd.ntmps8
    go_wp2_with fail
    go_ret
    exact ⟨rfl, by go_grown⟩
  · go_enter Tryd.func8, Tryd.ntmps8
    go_wp2_with fail
    refine (drawUseMost_any A c m w hB (by omega) hc hc2).mono ?_
    rintro e w1 ⟨ls, g, c1, xs, h, c2, rfl, hS, hT, hl, hx, hb1⟩
    have hl' : ls.length ≤ 1048576 := by omega
    have hx' : xs.length ≤ 1048576 := by omega
    have hcap := hT.cap.2.1
    have HI := hide hS.lots
    have HT := hide hT.ints
    obtain ⟨x, HX⟩ : ∃ x, Hid (useMostL ls xs = x) := ⟨_, hide rfl⟩
    have hne1 : (x != x) = false := by simp
    clear hS hT
    go_wp2_with fail
    refine (implUseMost_any _ _ _ _ _ _ _ HI.out hl' HT.out hx').mono ?_
    rintro e w2 ⟨rfl, hB2⟩
    have hb2 := next hb1 hB2
    have HI2 := hide (HI.out.below hB2)
    have HT2 := hide (HT.out.below hB2)
    rw [HX.out]
    clear hB2
    go_wp2_with fail
    refine (specUseMost_any _ _ _ _ _ _ _ HI2.out hl' HT2.out hx').mono ?_
    rintro e w3 ⟨rfl, hB3⟩
    have hb3 := next hb2 hB3
    have HI3 := hide (HI2.out.below hB3)
    have HT3 := hide (HT2.out.below hB3)
    rw [HX.out]
    clear hB3 HI HT HI2 HT2
    cases hok : stockOk ls xs with
    | false =>
      have hv : x = -1 := by
        rw [← HX.out]
        unfold useMostL
        rw [if_neg (by rw [hok]; decide)]
      subst hv
      clear hok
      go_wp2_with fail
      refine (alive_any _).mono ?_
      rintro e w5 ⟨rfl, hB5⟩
      go_wp2_with fail
      go_ret
      exact ⟨rfl, next hb3 hB5⟩
    | true =>
      have hxr := useMostL_range hok
      rw [HX.out] at hxr
      obtain ⟨hx0, hx1⟩ := hxr
      have hneg : ¬ x < 0 := by omega
      have HMB : Hid (minB ls xs 6 = x) := hide (by rw [minB_all hok, HX.out])
      have HOK := hide hok
      have hxx : (x == x) = true := by simp
      clear hok
      go_wp2_with fail
      refine (implUseBound_any _ _ _ _ _ _ _ _ HI3.out hl' HT3.out hx' hcap).mono ?_
      rintro e w4 ⟨rfl, hB4⟩
      have hb4 := next hb3 hB4
      have HI4 := hide (HI3.out.below hB4)
      have HT4 := hide (HT3.out.below hB4)
      obtain ⟨z0, HZ0⟩ : ∃ z, Hid (useBoundL ls xs 0 = z) := ⟨_, hide rfl⟩
      rw [HZ0.out]
      clear hB4 HI3 HT3
      go_wp2_with fail
      go_loopw [6, 7] (fun lv iv wr => ∃ (n : Nat) (z : Int), n ≤ 6 ∧ iv = .int .i64 ((n : Int) + 1) ∧ lv = .int .i64 z ∧ Hid (minB ls xs n = z) ∧ Below w4.heap.size w4 wr) (fun _ iv _ => 8 - (intOf iv).toNat)
      case atStart => exact ⟨0, z0, by omega, rfl, rfl, HZ0, Below.refl _ _⟩
      case round =>
        obtain ⟨n, z, hn, rfl, rfl, HM, hd⟩ := hrel
        have hb := next hb4 hd
        by_cases hlt : n < 6
        · have hy : (n : Int) + 1 ≤ 6 := by omega
          obtain ⟨y, HY⟩ : ∃ y, Hid (useBoundL ls xs ((n : Int) + 1) = y) := ⟨_, hide rfl⟩
          obtain ⟨mn, hmn⟩ : ∃ mn, min z y = mn := ⟨_, rfl⟩
          have HMN : Hid (minB ls xs (n + 1) = mn) := hide (by rw [← hmn, ← HM.out, ← HY.out]; rfl)
          have HI5 := hide (HI4.out.below hd)
          have HT5 := hide (HT4.out.below hd)
          go_wp2_with fail
          refine (implUseBound_any _ _ _ _ _ _ _ _ HI5.out hl' HT5.out hx' hcap).mono ?_
          rintro e w6 ⟨rfl, hB6⟩
          rw [HY.out]
          have hd6 := next hd hB6
          clear hB6
          go_wp2_with fail
          go_roundw
          case rel => exact ⟨n + 1, mn, hlt, by go_num, rfl, HMN, hd6⟩
          case measure => simp [intOf]; omega
        · obtain rfl : n = 6 := by omega
          have hzx : x = z := by rw [← HM.out, HMB.out]
          subst hzx
          have HI5 := hide (HI4.out.below hd)
          have HT5 := hide (HT4.out.below hd)
          have hsz := hb.size
          clear HI4 HT4 HM HMB
          go_wp2_with fail
          go_loopw [8] (fun iv wq => ∃ k : Nat, k ≤ ls.length ∧ iv = .int .i64 k ∧ Below wr.heap.size wr wq) (fun iv _ => ls.length - (intOf iv).toNat)
          case atStart => exact ⟨0, Nat.zero_le _, rfl, Below.refl _ _⟩
          case round =>
            obtain ⟨k, hk, rfl, hd2⟩ := hrel
            have hbq := next hb hd2
            have hszq := hbq.size
            by_cases hltk : k < ls.length
            · obtain ⟨q, hq⟩ : ∃ q, ls[k]? = some q := ⟨_, List.getElem?_eq_getElem hltk⟩
              have hqr := lotsOk_at (stockOk_parts HOK.out).1 (List.mem_of_getElem? hq)
              obtain ⟨hq0, hq9, -, -⟩ := hqr
              have HQ := hide hq
              obtain ⟨M, hM⟩ : ∃ M, q.many + 1 = M := ⟨_, rfl⟩
              have hwM : IntKind.i64.wrap (q.many + 1) = M := (IntWalk.i64_in _ (by omega)).trans hM
              have HMM := hide hM
              clear hM
              have HL0 : Hid (LotSl (wr.alloc (.cells #[] 36)) wr.heap.size (.slice (some ⟨wr.heap.size, 0, none⟩) 0 0) []) := hide (World.ownsRow_lit wr #[] 0 (Nat.le_refl _) (by unfold maxLen; omega) rfl)
              have HIA : Hid (LotsAt (wr.alloc (.cells #[] 36)) (some ⟨g, 0, none⟩) ls) := hide ((HI5.out.below hd2).below (by go_grown))
              have hk0 : (0 : Int) ≤ k := by omega
              have hk1 : (k : Int) < ls.length := by omega
              clear hq
              go_wp2_with (at_builtin; refine wpList_wanted (by rfl) (wp_copy_lot _ _ (by rfl) wr.heap.size (.slice (some ⟨wr.heap.size, 0, none⟩) 0 0) (by rfl) HL0.out (by simp) ⟨g, 0, none⟩ ls.length c1 ls rfl (by rfl) HIA.out hl' (by simp) ?_); intro g7 cap7 w7 hown hgrow; have HO7 := hide hown; have HB7 : Hid (Below wr.heap.size wr w7) := hide (below_ownL hgrow); obtain ⟨b8, off8, hDD8, hbl8, hc8, -⟩ := (LotSl.lots HO7.out) k q HQ.out; injection hDD8 with hDD8; injection hDD8 with e81 e82; subst e81 e82; rw [Nat.zero_add] at hc8; have hf8 := LotSl.frozenAt HO7.out (k * 2); clear hown hgrow)
              have hst := LotSl.store1 HO7.out HQ.out M
              obtain ⟨L8, HL8⟩ : ∃ L8, Hid (ls.set k ⟨M, q.last⟩ = L8) := ⟨_, hide rfl⟩
              rw [HL8.out] at hst
              have HM8 := hide (LotSl.lots hst.1)
              have HB8 : Hid (Below wr.heap.size wr (w7.setCell ⟨g7, k * 2, none⟩ (.int .i64 M))) := hide (HB7.out.grown hst.2 HB7.out.size (fun j hj => by injection hj with hj; have hlt := (World.ownsRow.lt HO7.out g7 rfl).1; omega))
              have hb8 := next hbq HB8.out
              have HT8 := hide ((HT5.out.below hd2).below HB8.out)
              have hL8n : L8.length = ls.length := by rw [← HL8.out, List.length_set]
              have HL8N := hide hL8n
              obtain ⟨y, HY⟩ : ∃ y, Hid (useMostL L8 xs = y) := ⟨_, hide rfl⟩
              have hat : L8[k]? = some ⟨M, q.last⟩ := by rw [← HL8.out, List.getElem?_set_self hltk]
              have HAT := hide hat
              clear hst hL8n hat
              refine (implUseMost_at _ _ _ _ _ L8 _ y _ HL8N.out HY HM8.out hl' HT8.out hx').mono ?_
              rintro e w9 ⟨rfl, hB9⟩
              have hb9 := next hb8 hB9
              obtain ⟨b9, off9, hDD9, hbl9, hc9, -⟩ := (HM8.out.below hB9) k _ HAT.out
              injection hDD9 with hDD9
              injection hDD9 with e91 e92
              subst e91 e92
              rw [Nat.zero_add] at hc9
              have hc10 : w9.cell? ⟨g7, k * 2, none⟩ = some (.int .i64 M) := hc9
              have hd9 := next hd2 (next HB8.out hB9)
              clear hc9 hc8 hf8
              by_cases hm9 : M ≤ 9
              · have hyc : y = x ∨ y = x + 1 := by
                  have := most_more HOK.out HQ.out (by rw [HMM.out]; exact hm9)
                  rw [HX.out, HMM.out, HL8.out, HY.out] at this
                  exact this
                by_cases hyx : y = x
                · have hyb : (y != x) = false := by rw [hyx]; simp
                  clear hyx hyc
                  go_wp2_with fail
                  go_roundw
                  case rel => first | exact ⟨k + 1, hltk, by omega⟩ | exact ⟨k + 1, hltk, by go_num, hd9⟩ | exact ⟨⟨k + 1, hltk, by go_num, hd9⟩, rfl⟩ | ((repeat apply Exists.intro); exact ⟨⟨k + 1, hltk, by go_num, hd9⟩, rfl⟩)
                  case measure => simp [intOf]; omega
                · have hyb : (y != x) = true := by simpa using hyx
                  have hyb2 : (y != x + 1) = false := by rw [hyc.resolve_left hyx]; simp
                  clear hyx hyc
                  go_wp2_with fail
                  go_roundw
                  case rel => first | exact ⟨k + 1, hltk, by omega⟩ | exact ⟨k + 1, hltk, by go_num, hd9⟩ | exact ⟨⟨k + 1, hltk, by go_num, hd9⟩, rfl⟩ | ((repeat apply Exists.intro); exact ⟨⟨k + 1, hltk, by go_num, hd9⟩, rfl⟩)
                  case measure => simp [intOf]; omega
              · go_wp2_with fail
                go_roundw
                case rel => first | exact ⟨k + 1, hltk, by omega⟩ | exact ⟨k + 1, hltk, by go_num, hd9⟩ | exact ⟨⟨k + 1, hltk, by go_num, hd9⟩, rfl⟩ | ((repeat apply Exists.intro); exact ⟨⟨k + 1, hltk, by go_num, hd9⟩, rfl⟩)
                case measure => simp [intOf]; omega
            · have hk1 : ¬ (k : Int) < ls.length := by omega
              go_wp2_with fail
              go_ret
              exact ⟨rfl, next hb hd2⟩
end Go.Proofs.YtndcanllkmfahaaDoor
