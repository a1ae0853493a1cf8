/- For all drawn bytes the law of DishesGreedy answers true, and its argument reads as it did.
   Conditions: none. -/
import Derived.Test.YthbainbgimbjeaaDoorLawKit
import Derived.Test.YthbainbgimbjeaaDoorDrawMenu
import Derived.Test.YthbainbgimbjeaaDoorLawBits
import Derived.Test.YthbainbgimbjeaaDoorGreedyMath2
import Derived.Test.YthbainbgimbjeaaDoorZ4
import Derived.Test.YthbainbgimbjeaaDoorGuests16
import Derived.Test.YthbainbgimbjeaaDoorLists
namespace Go.Proofs.YthbainbgimbjeaaDoor
open Go.RowKit Go.ChangeShapes Go.WideShapes Go.ChangeAt Go.Deep

def DrawnDishesGreedy (w : World) (e : Ending) (w' : World) : Prop := ∃ (gs : Int) (ls : List Int) (g c : Nat), e = .returned (.tuple #[.int .i64 gs, .slice (some ⟨g, 0, none⟩) ls.length c]) ∧
  IntsAt w' (some ⟨g, 0, none⟩) ls ∧ ls.length ≤ 7 ∧ -1 ≤ gs ∧ gs ≤ 7 ∧ Below w.heap.size w w'

set_option maxHeartbeats 1000000 in
theorem drawDishesGreedy_any (A : Option Addr) (c m : Nat) (w : World) (hB : BytesIn w A m) (hm : m ≤ 9223372036854775807) (hc : m ≤ c) (hc2 : c ≤ 9223372036854775807) :
    Calls Tryd.prog 18 #[.slice A m c] w (DrawnDishesGreedy w) := by
  go_enter Tryd.func18, Tryd.ntmps18
  go_wp2_with fail
  refine (open_any A c m w hB hm hc hc2).mono ?_
  rintro e w1 ⟨rfl, hR1, hb1⟩
  have hz1 := hb1.size
  go_wp2_with fail
  refine (l20Menu_any w.heap.size 0 9 _ hR1 (by omega) (by omega)).mono ?_
  rintro e w2 ⟨gs, ls, g, c2, rfl, hS2, hl7, hle, hg0, hg7, hR2, hg2⟩
  have hb2 : Below w.heap.size w w2 := hb1.grown hg2 hz1 (fun j hj => by injection hj with hj; omega)
  have HS2 := hide (IntSl.ints hS2)
  clear hg2 hS2 hle
  go_wp2_with fail
  refine bodyPost_ret (results_tmp2 rfl _ _ _) rfl ⟨gs, ls, g, c2, rfl, HS2.out, hl7, hg0, hg7, hb2⟩

set_option maxRecDepth 100000 in
set_option maxHeartbeats 4000000 in
theorem lawDishesGreedy_any (A : Option Addr) (c m : Nat) (w : World) (hB : BytesIn w A m) (hc : m ≤ c) (hc2 : c ≤ 9223372036854775807) :
    Calls Tryd.prog 5 #[.slice A m c] w fun e w' => e = .returned (.bool true) ∧ Below w.heap.size w w' := by
  by_cases hlen : (1048576 : Int) < m
  · go_enter Tryd.func5, Tryd.ntmps5
    go_wp2_with fail
    go_ret
    exact ⟨rfl, by go_grown⟩
  · go_enter Tryd.func5, Tryd.ntmps5
    go_wp2_with fail
    refine (drawDishesGreedy_any A c m w hB (by omega) hc hc2).mono ?_
    rintro e w1 ⟨gs, ls, g, c1, rfl, hI, hl7, hg0, hg7, hb1⟩
    have HI1 := hide hI
    obtain ⟨ss, HSS⟩ : ∃ ss, Hid (greedyL gs ls = ss) := ⟨_, hide rfl⟩
    have hsl : ss.length ≤ 7 := by rw [← HSS.out]; unfold greedyL; split; exact greedyGo_len _ _ _; simp
    clear hI
    go_wp2_with fail
    refine (implDishesGreedy_any _ _ _ _ _ HI1.out (by omega)).mono ?_
    rintro e w2 ⟨v2, rfl, hS2, hB2⟩
    rw [HSS.out] at hS2
    obtain ⟨A2, d2, rfl, hSI2, -⟩ := hS2.form
    have hb2 := next hb1 hB2
    have HI2 := hide (HI1.out.below hB2)
    have HSI2 := hide hSI2
    clear hB2 HI1 hS2 hSI2
    go_wp2_with fail
    refine (specDishesGreedy_any _ _ _ _ _ HI2.out (by omega)).mono ?_
    rintro e w3 ⟨v3, rfl, hS3, hB3⟩
    rw [HSS.out] at hS3
    obtain ⟨A3, d3, rfl, hSI3, -⟩ := hS3.form
    have hb3 := next hb2 hB3
    have HI3 := hide (HI2.out.below hB3)
    have HSI3 := hide (HSI2.out.below hB3)
    have HSJ3 := hide hSI3
    clear hB3 HI2 HSI2 hS3 hSI3
    go_wp2_with fail
    refine (sameInts_same _ _ _ _ _ _ HSI3.out HSJ3.out (by omega)).mono ?_
    rintro e w4 ⟨rfl, hB4⟩
    have hb4 := next hb3 hB4
    have HI4 := hide (HI3.out.below hB4)
    have HSI4 := hide (HSI3.out.below hB4)
    clear hB4 HI3 HSI3 HSJ3
    cases hM : menuOk gs ls with
    | false =>
      have HM := hide hM
      obtain rfl : ss = [] := by rw [← HSS.out]; exact greedy_no hM
      have h0 : ((([] : List Int).length : Int) == 0) = true := rfl
      clear hM
      go_wp2_with fail
      refine (specMenuValid_any _ _ _ _ _ HI4.out (by omega)).mono ?_
      rintro e w5 ⟨rfl, hB5⟩
      rw [HM.out]
      have hb5 := next hb4 hB5
      go_wp2_with fail
      refine (alive_any _).mono ?_
      rintro e we ⟨rfl, hBe⟩
      go_wp2_with fail
      go_ret
      exact ⟨rfl, next hb5 hBe⟩
    | true =>
      have HM := hide hM
      have h6 := menuOk_len hM
      have hfl := fullN_len h6
      have HG0 : Hid (ss = greedyGo ls 7 0) := hide (by rw [← HSS.out]; unfold greedyL; rw [if_pos hM])
      have HC0 := hide (chose_start hM)
      clear hM
      go_wp2_with fail
      refine (specMenuValid_any _ _ _ _ _ HI4.out (by omega)).mono ?_
      rintro e w5 ⟨rfl, hB5⟩
      rw [HM.out]
      have hb5 := next hb4 hB5
      have HI5 := hide (HI4.out.below hB5)
      have HSI5 := hide (HSI4.out.below hB5)
      clear hB5 HI4 HSI4
      have HFB := hide (fun d W hW => implFedBy_any gs (some ⟨g, 0, none⟩) c1 ls d W hW (by omega))
      go_wp2_with fail
      go_loopw [6, 7, 8, 9] (fun cv fv lv iv wr => ∃ (k f : Nat) (ch F last z : Int), k ≤ ss.length ∧ iv = .int .i64 k ∧ cv = .int .i64 ch ∧ fv = .int .i64 z ∧ lv = .int .i64 last ∧ Hid (sz F = z) ∧ 0 ≤ z ∧ z ≤ 6 ∧ 0 ≤ ch ∧ ch < 64 ∧ last ≤ 6 ∧ Hid (Chose gs ls f ch F last) ∧ Hid (ss.drop k = greedyGo ls f F) ∧ Below w5.heap.size w5 wr) (fun _ _ _ iv _ => ss.length - (intOf iv).toNat)
      case atStart => exact ⟨0, 7, 0, 0, 6, 0, Nat.zero_le _, rfl, rfl, rfl, rfl, hide (by decide +kernel), by omega, by omega, by omega, by omega, by omega, HC0, HG0, Below.refl _ _⟩
      case round =>
        obtain ⟨k, f, ch, F, last, z, hk, rfl, rfl, rfl, rfl, HZ, hz0, hz6, hc0, hc6, hla, HC, HD, hbr⟩ := hrel
        have HIr := hide (HI5.out.below hbr)
        have HSr := hide (HSI5.out.below hbr)
        have hszr := hbr.size
        by_cases hkl : k < ss.length
        · have hd : decide ((k : Int) < ss.length) = true := decide_eq_true (by omega)
          have hdr : ss.drop k = ss[k] :: ss.drop (k + 1) := List.drop_eq_getElem_cons hkl
          generalize hsk : ss[k] = sk at hdr
          rcases chose_round HM.out HC.out with ⟨h1, -⟩ | ⟨j, f', F', n, rfl, hj6, hgo, hnb, hn, hn1, hnl, hCh⟩
          · rw [HD.out, h1] at hdr
            injection hdr
          · rw [HD.out, hgo] at hdr
            injection hdr with hd1 hd2
            obtain ⟨ab, off, hA2, hbl, hcl⟩ := HSr.out k (j : Int) (by rw [hd1, ← hsk]; exact (List.getElem?_eq_getElem hkl))
            subst hA2
            have HC2 := hide hCh
            have HD2 := hide hd2.symm
            have hF' := hCh.2.2.2.1
            have hF6 := hCh.2.2.2.2.1
            have hc1 := hCh.2.1
            have hc00 := hCh.1
            have hzr := sz_range hF' hF6
            obtain ⟨z', hz'⟩ : ∃ z', sz F' = z' := ⟨_, rfl⟩
            have HZ2 := hide hz'
            rw [hz', HZ.out] at hn
            rw [hz'] at hzr
            have hf1 : (ch / 2 ^ j % 2 == 1) = false := hnb
            have hq := div_range ch j hc0 hc6
            have hpj := pow_range j hj6
            have hj0 : (0 : Int) ≤ j := by omega
            have hk0 : (0 : Int) ≤ k := by omega
            have HFE : Hid (fedL gs ls (ch + 2 ^ j) = F') := hide (by rw [fed_yes HM.out (inR_iff.2 ⟨hc00, hc1⟩)]; exact hCh.2.2.1)
            have hdn1 : decide (z' - z < 1) = false := decide_eq_false (by omega)
            have hdn2 : decide (last < z' - z) = false := decide_eq_false (by omega)
            clear hd1 hd2 hCh hsk hz' hgo hnb
            go_wp2_with fail
            refine (HFB.out (ch + 2 ^ j) _ HIr.out).mono ?_
            rintro e w6 ⟨rfl, hB6⟩
            rw [HFE.out]
            have hb6 := next hbr hB6
            have hz6' := hB6.size
            clear hB6
            go_wp2_with fail
            refine (bitsOf_any _ _ hF' (by omega)).mono ?_
            rintro e w7 ⟨rfl, rfl⟩
            rw [HZ2.out]
            go_wp2_with fail
            refine (bitsOf_any _ _ hF' (by omega)).mono ?_
            rintro e w7 ⟨rfl, rfl⟩
            rw [HZ2.out]
            go_wp2_with fail
            go_roundw
            case rel => exact ⟨k + 1, f', ch + 2 ^ j, F', n, z', by omega, by go_num, rfl, rfl, rfl, HZ2, by omega, by omega, by omega, by omega, by omega, HC2, HD2, hb6⟩
            case measure => simp [intOf]; omega
        · have hd : decide ((k : Int) < ss.length) = false := decide_eq_false (by omega)
          obtain rfl : k = ss.length := by omega
          have hend : fedGo (full ls.length) 0 ls 0 = F := by
            rcases chose_round HM.out HC.out with ⟨-, h1⟩ | ⟨j, f', F', n, rfl, hj6, hgo, -⟩
            · exact h1
            · have := HD.out
              rw [hgo, List.drop_length] at this
              exact absurd this (by simp)
          have HF1 : Hid (fedL gs ls ch = F) := hide (by rw [fed_yes HM.out (inR_iff.2 ⟨HC.out.1, HC.out.2.1⟩)]; exact HC.out.2.2.1)
          have HF2 : Hid (fedL gs ls (full ls.length) = F) := hide (by rw [fed_yes HM.out (inR_iff.2 ⟨hfl.2.2, Int.le_refl _⟩)]; exact hend)
          have hFF : (F == F) = true := by simp
          have hfu : full ls.length = 2 ^ ls.length - 1 := by unfold full; rw [Int.toNat_natCast]
          have HCF2 := hide (fun W hW => implFedBy_any gs (some ⟨g, 0, none⟩) c1 ls (full ls.length) W hW (by omega))
          rw [HF2.out, hfu] at HCF2
          clear hfu
          obtain ⟨l, HL⟩ : ∃ l, Hid (dishesLeastL gs ls = l) := ⟨_, hide rfl⟩
          have hp6 := pow_range6 ls.length h6
          have hw1 : IntKind.i64.wrap (2 ^ ls.length) = 2 ^ ls.length := IntWalk.i64_in _ (by omega)
          have hw2 : IntKind.i64.wrap (2 ^ ls.length - 1) = 2 ^ ls.length - 1 := IntWalk.i64_in _ (by omega)
          clear hend
          cases hl : decide (l < 0) with
          | true =>
            go_wp2_with fail
            refine (implDishesLeast_any _ _ _ _ _ HIr.out (by omega)).mono ?_
            rintro e w8 ⟨rfl, hB8⟩
            rw [HL.out]
            have hb8 := next (next hb5 hbr) hB8
            have HI8 := hide (HIr.out.below hB8)
            clear hB8
            go_wp2_with fail
            refine wp_region_noPanic ?_
            refine wp_region_held_drew (S := fun _ => True) (by kernel_rfl) trivial (fun hHeld => ?_)
            clear hHeld
            refine wpAnyH_take (i := 0) (oi := { dst := some 82, op := Op.move (Operand.tmp 3), type := 3, pos := "laws.go:1690", after := #[], guard := none }) (v := ?v1) rfl (by kernel_rfl) (by kernel_rfl) (by kernel_rfl) (fun _ _ _ h => h) (Or.inl ⟨by rfl, ?hy1⟩) trivial ?rest1
            case hy1 => (intro w9 hS9; go_simp; (try with_reducible rfl))
            simp only [Act.put, List.setIfInBounds_toArray, List.set_cons_zero, List.set_cons_succ]
            refine wpAnyH_take (i := 1) (oi := { dst := some 83, op := Op.move (Operand.tmp 4), type := 23, pos := "laws.go:1690", after := #[], guard := none }) (v := ?v2) rfl (by kernel_rfl) (by kernel_rfl) (by kernel_rfl) (fun _ _ _ h => h) (Or.inl ⟨by rfl, ?hy2⟩) trivial ?rest2
            case hy2 => (intro w9 hS9; go_simp; (try with_reducible rfl))
            simp only [Act.put, List.setIfInBounds_toArray, List.set_cons_zero, List.set_cons_succ]
            refine wpAnyH_take (i := 2) (oi := { dst := some 84, op := Op.move (Operand.tmp 6), type := 3, pos := "laws.go:1690", after := #[], guard := none }) (v := ?v3) rfl (by kernel_rfl) (by kernel_rfl) (by kernel_rfl) (fun _ _ _ h => h) (Or.inl ⟨by rfl, ?hy3⟩) trivial ?rest3
            case hy3 => (intro w9 hS9; go_simp; (try with_reducible rfl))
            simp only [Act.put, List.setIfInBounds_toArray, List.set_cons_zero, List.set_cons_succ]
            refine wpAnyH_take (i := 4) (oi := { dst := some 86, op := Op.move (Operand.tmp 3), type := 3, pos := "laws.go:1690", after := #[], guard := none }) (v := ?v4) rfl (by kernel_rfl) (by kernel_rfl) (by kernel_rfl) (fun _ _ _ h => h) (Or.inl ⟨by rfl, ?hy4⟩) trivial ?rest4
            case hy4 => (intro w9 hS9; go_simp; (try with_reducible rfl))
            simp only [Act.put, List.setIfInBounds_toArray, List.set_cons_zero, List.set_cons_succ]
            refine wpAnyH_take (i := 5) (oi := { dst := some 87, op := Op.move (Operand.tmp 4), type := 23, pos := "laws.go:1690", after := #[], guard := none }) (v := ?v5) rfl (by kernel_rfl) (by kernel_rfl) (by kernel_rfl) (fun _ _ _ h => h) (Or.inl ⟨by rfl, ?hy5⟩) trivial ?rest5
            case hy5 => (intro w9 hS9; go_simp; (try with_reducible rfl))
            simp only [Act.put, List.setIfInBounds_toArray, List.set_cons_zero, List.set_cons_succ]
            refine wpAnyH_take (i := 6) (oi := { dst := some 88, op := Op.move (Operand.tmp 4), type := 23, pos := "laws.go:1690", after := #[], guard := none }) (v := ?v6) rfl (by kernel_rfl) (by kernel_rfl) (by kernel_rfl) (fun _ _ _ h => h) (Or.inl ⟨by rfl, ?hy6⟩) trivial ?rest6
            case hy6 => (intro w9 hS9; go_simp; (try with_reducible rfl))
            simp only [Act.put, List.setIfInBounds_toArray, List.set_cons_zero, List.set_cons_succ]
            refine wpAnyH_take (i := 7) (oi := { dst := some 89, op := Op.call { callee := Callee.builtin Builtin.len, args := #[Operand.tmp 88], argTypes := #[23] }, type := 3, pos := "laws.go:1690", after := #[{ on := 6, ground := Ground.data }], guard := none }) (v := ?v7) rfl (by kernel_rfl) (by kernel_rfl) (by kernel_rfl) (fun _ _ _ h => h) (Or.inl ⟨by rfl, ?hy7⟩) trivial ?rest7
            case hy7 => (intro w9 hS9; go_simp; (try with_reducible rfl))
            simp only [Act.put, List.setIfInBounds_toArray, List.set_cons_zero, List.set_cons_succ]
            refine wpAnyH_take (i := 8) (oi := { dst := some 90, op := Op.binOp BinOp.shl 3 (Operand.const (Value.int IntKind.i64 1)) (Operand.tmp 89) 3, type := 3, pos := "laws.go:1690", after := #[{ on := 7, ground := Ground.data }], guard := none }) (v := ?v8) rfl (by kernel_rfl) (by kernel_rfl) (by kernel_rfl) (fun _ _ _ h => h) (Or.inl ⟨by rfl, ?hy8⟩) trivial ?rest8
            case hy8 => (intro w9 hS9; go_simp; (try with_reducible rfl))
            simp only [Act.put, List.setIfInBounds_toArray, List.set_cons_zero, List.set_cons_succ]
            refine wpAnyH_take (i := 9) (oi := { dst := some 91, op := Op.binOp BinOp.sub 3 (Operand.tmp 90) (Operand.const (Value.int IntKind.i64 1)) 3, type := 3, pos := "laws.go:1690", after := #[{ on := 8, ground := Ground.data }], guard := none }) (v := ?v9) rfl (by kernel_rfl) (by kernel_rfl) (by kernel_rfl) (fun _ _ _ h => h) (Or.inl ⟨by rfl, ?hy9⟩) trivial ?rest9
            case hy9 => (intro w9 hS9; go_simp; (try with_reducible rfl))
            simp only [Act.put, List.setIfInBounds_toArray, List.set_cons_zero, List.set_cons_succ]
            refine wpAnyH_ready (rs := [3]) (by kernel_rfl) (by simp) ?_
            refine AllReadyH.cons (o := { dst := some 85, op := Op.call { callee := Callee.value (Operand.func 22), args := #[Operand.tmp 82, Operand.tmp 83, Operand.tmp 84], argTypes := #[3, 23, 3] }, type := 3, pos := "laws.go:1690", after := #[{ on := 0, ground := Ground.data }, { on := 1, ground := Ground.data }, { on := 2, ground := Ground.data }], guard := none }) rfl (fun K hK => ?_) (AllReadyH.nil)
            go_simp
            go_at_call 22
            refine (HFB.out ch (World.drew w8) (show IntsAt (World.drew w8) _ ls from HI8.out)).mono ?_
            rintro e w9 ⟨rfl, hB9⟩
            rw [HF1.out]
            have hb89 : Below w8.heap.size w8 w9 := ⟨hB9.os, hB9.tape, hB9.output, hB9.size, hB9.block⟩
            have hb9 := next hb8 hb89
            have HI9 := hide (HI8.out.below hb89)
            clear hB9 hb89
            go_wp2_with fail
            refine hK.out _ _ trivial (fun _ => ?_)
            clear hK K
            try simp only [Act.put, List.setIfInBounds_toArray, List.set_cons_zero, List.set_cons_succ]
            refine wpAnyH_ready (rs := [10]) (by kernel_rfl) (by simp) ?_
            refine AllReadyH.cons (o := { dst := some 92, op := Op.call { callee := Callee.value (Operand.func 22), args := #[Operand.tmp 86, Operand.tmp 87, Operand.tmp 91], argTypes := #[3, 23, 3] }, type := 3, pos := "laws.go:1690", after := #[{ on := 4, ground := Ground.data }, { on := 5, ground := Ground.data }, { on := 9, ground := Ground.data }, { on := 3, ground := Ground.chain }], guard := none }) rfl (fun K hK => ?_) (AllReadyH.nil)
            go_simp
            go_at_call 22
            refine (HCF2.out _ HI9.out).mono ?_
            rintro e w10 ⟨rfl, hB10⟩
            have hb10 := next hb9 hB10
            clear hB10
            go_wp2_with fail
            refine hK.out _ _ trivial (fun _ => ?_)
            clear hK K
            try simp only [Act.put, List.setIfInBounds_toArray, List.set_cons_zero, List.set_cons_succ]
            refine wpAnyH_take (i := 11) (oi := { dst := some 93, op := Op.binOp BinOp.eql 3 (Operand.tmp 85) (Operand.tmp 92) 3, type := 4, pos := "laws.go:1690", after := #[{ on := 3, ground := Ground.data }, { on := 10, ground := Ground.data }], guard := none }) (v := ?v10) rfl (by kernel_rfl) (by kernel_rfl) (by kernel_rfl) (fun _ _ _ h => h) (Or.inl ⟨by rfl, ?hy10⟩) trivial ?rest10
            case hy10 => (intro w9 hS9; go_simp; (try with_reducible rfl))
            simp only [Act.put, List.setIfInBounds_toArray, List.set_cons_zero, List.set_cons_succ]
            refine wpAnyH_take (i := 12) (oi := { dst := some 94, op := Op.move (Operand.tmp 93), type := 4, pos := "laws.go:1690", after := #[{ on := 11, ground := Ground.data }, { on := 10, ground := Ground.chain }], guard := none }) (v := ?v11) rfl (by kernel_rfl) (by kernel_rfl) (by kernel_rfl) (fun _ _ _ h => h) (Or.inl ⟨by rfl, ?hy11⟩) trivial ?rest11
            case hy11 => (intro w9 hS9; go_simp; (try with_reducible rfl))
            simp only [Act.put, List.setIfInBounds_toArray, List.set_cons_zero, List.set_cons_succ]
            refine wpAnyH_take (i := 13) (oi := { dst := some 95, op := Op.move (Operand.tmp 12), type := 3, pos := "laws.go:1690", after := #[{ on := 12, ground := Ground.guard }], guard := some (12, true) }) (v := ?v12) rfl (by kernel_rfl) (by kernel_rfl) (by kernel_rfl) (fun _ _ _ h => h) (Or.inl ⟨by rfl, ?hy12⟩) trivial ?rest12
            case hy12 => (intro w9 hS9; go_simp; (try with_reducible rfl))
            simp only [Act.put, List.setIfInBounds_toArray, List.set_cons_zero, List.set_cons_succ]
            refine wpAnyH_take (i := 14) (oi := { dst := some 96, op := Op.binOp BinOp.lss 3 (Operand.tmp 95) (Operand.const (Value.int IntKind.i64 0)) 3, type := 4, pos := "laws.go:1690", after := #[{ on := 13, ground := Ground.data }, { on := 12, ground := Ground.guard }], guard := some (12, true) }) (v := ?v13) rfl (by kernel_rfl) (by kernel_rfl) (by kernel_rfl) (fun _ _ _ h => h) (Or.inl ⟨by rfl, ?hy13⟩) trivial ?rest13
            case hy13 => (intro w9 hS9; go_simp; (try with_reducible rfl))
            simp only [Act.put, List.setIfInBounds_toArray, List.set_cons_zero, List.set_cons_succ]
            refine wpAnyH_take (i := 15) (oi := { dst := some 97, op := Op.move (Operand.tmp 96), type := 4, pos := "laws.go:1690", after := #[{ on := 14, ground := Ground.data }, { on := 12, ground := Ground.chain }, { on := 12, ground := Ground.guard }], guard := some (12, true) }) (v := ?v14) rfl (by kernel_rfl) (by kernel_rfl) (by kernel_rfl) (fun _ _ _ h => h) (Or.inl ⟨by rfl, ?hy14⟩) trivial ?rest14
            case hy14 => (intro w9 hS9; go_simp; (try with_reducible rfl))
            simp only [Act.put, List.setIfInBounds_toArray, List.set_cons_zero, List.set_cons_succ]
            refine wpAnyH_take (i := 16) (oi := { dst := some 98, op := Op.move (Operand.tmp 5), type := 23, pos := "laws.go:1690", after := #[{ on := 15, ground := Ground.guard }], guard := some (15, false) }) (v := undef) rfl (by kernel_rfl) (by kernel_rfl) (by kernel_rfl) (fun _ _ _ h => h) (Or.inr ⟨by rfl, rfl⟩) trivial ?_
            simp only [Act.put, List.setIfInBounds_toArray, List.set_cons_zero, List.set_cons_succ]
            refine wpAnyH_take (i := 17) (oi := { dst := some 99, op := Op.call { callee := Callee.builtin Builtin.len, args := #[Operand.tmp 98], argTypes := #[23] }, type := 3, pos := "laws.go:1690", after := #[{ on := 16, ground := Ground.data }, { on := 15, ground := Ground.guard }], guard := some (15, false) }) (v := undef) rfl (by kernel_rfl) (by kernel_rfl) (by kernel_rfl) (fun _ _ _ h => h) (Or.inr ⟨by rfl, rfl⟩) trivial ?_
            simp only [Act.put, List.setIfInBounds_toArray, List.set_cons_zero, List.set_cons_succ]
            refine wpAnyH_take (i := 18) (oi := { dst := some 100, op := Op.binOp BinOp.mul 3 (Operand.const (Value.int IntKind.i64 20)) (Operand.tmp 99) 3, type := 3, pos := "laws.go:1690", after := #[{ on := 17, ground := Ground.data }, { on := 15, ground := Ground.guard }], guard := some (15, false) }) (v := undef) rfl (by kernel_rfl) (by kernel_rfl) (by kernel_rfl) (fun _ _ _ h => h) (Or.inr ⟨by rfl, rfl⟩) trivial ?_
            simp only [Act.put, List.setIfInBounds_toArray, List.set_cons_zero, List.set_cons_succ]
            refine wpAnyH_take (i := 19) (oi := { dst := some 101, op := Op.move (Operand.tmp 12), type := 3, pos := "laws.go:1690", after := #[{ on := 15, ground := Ground.guard }], guard := some (15, false) }) (v := undef) rfl (by kernel_rfl) (by kernel_rfl) (by kernel_rfl) (fun _ _ _ h => h) (Or.inr ⟨by rfl, rfl⟩) trivial ?_
            simp only [Act.put, List.setIfInBounds_toArray, List.set_cons_zero, List.set_cons_succ]
            refine wpAnyH_take (i := 20) (oi := { dst := some 102, op := Op.call { callee := Callee.value (Operand.func 13), args := #[Operand.tmp 101], argTypes := #[3] }, type := 3, pos := "laws.go:1690", after := #[{ on := 19, ground := Ground.data }, { on := 15, ground := Ground.chain }, { on := 15, ground := Ground.guard }], guard := some (15, false) }) (v := undef) rfl (by kernel_rfl) (by kernel_rfl) (by kernel_rfl) (fun _ _ _ h => h) (Or.inr ⟨by rfl, rfl⟩) trivial ?_
            simp only [Act.put, List.setIfInBounds_toArray, List.set_cons_zero, List.set_cons_succ]
            refine wpAnyH_take (i := 21) (oi := { dst := some 103, op := Op.binOp BinOp.mul 3 (Operand.const (Value.int IntKind.i64 49)) (Operand.tmp 102) 3, type := 3, pos := "laws.go:1690", after := #[{ on := 20, ground := Ground.data }, { on := 15, ground := Ground.guard }], guard := some (15, false) }) (v := undef) rfl (by kernel_rfl) (by kernel_rfl) (by kernel_rfl) (fun _ _ _ h => h) (Or.inr ⟨by rfl, rfl⟩) trivial ?_
            simp only [Act.put, List.setIfInBounds_toArray, List.set_cons_zero, List.set_cons_succ]
            refine wpAnyH_take (i := 22) (oi := { dst := some 104, op := Op.binOp BinOp.leq 3 (Operand.tmp 100) (Operand.tmp 103) 3, type := 4, pos := "laws.go:1690", after := #[{ on := 18, ground := Ground.data }, { on := 21, ground := Ground.data }, { on := 15, ground := Ground.guard }], guard := some (15, false) }) (v := undef) rfl (by kernel_rfl) (by kernel_rfl) (by kernel_rfl) (fun _ _ _ h => h) (Or.inr ⟨by rfl, rfl⟩) trivial ?_
            simp only [Act.put, List.setIfInBounds_toArray, List.set_cons_zero, List.set_cons_succ]
            refine wpAnyH_take (i := 23) (oi := { dst := some 105, op := Op.pick (Operand.tmp 97) (Operand.const (Value.bool true)) (Operand.tmp 104), type := 4, pos := "laws.go:1690", after := #[{ on := 15, ground := Ground.data }, { on := 22, ground := Ground.data }, { on := 12, ground := Ground.guard }], guard := some (12, true) }) (v := ?v22) rfl (by kernel_rfl) (by kernel_rfl) (by kernel_rfl) (fun _ _ _ h => h) (Or.inl ⟨by rfl, ?hy22⟩) trivial ?rest22
            case hy22 => (intro w9 hS9; go_simp; (try with_reducible rfl))
            simp only [Act.put, List.setIfInBounds_toArray, List.set_cons_zero, List.set_cons_succ]
            refine wpAnyH_take (i := 24) (oi := { dst := some 106, op := Op.pick (Operand.tmp 94) (Operand.tmp 105) (Operand.const (Value.bool false)), type := 4, pos := "laws.go:1690", after := #[{ on := 12, ground := Ground.data }, { on := 23, ground := Ground.data }], guard := none }) (v := ?v23) rfl (by kernel_rfl) (by kernel_rfl) (by kernel_rfl) (fun _ _ _ h => h) (Or.inl ⟨by rfl, ?hy23⟩) trivial ?rest23
            case hy23 => (intro w9 hS9; go_simp; (try with_reducible rfl))
            simp only [Act.put, List.setIfInBounds_toArray, List.set_cons_zero, List.set_cons_succ]
            refine wpAnyH_take (i := 25) (oi := { dst := some 2, op := Op.assign (Operand.tmp 106), type := 4, pos := "laws.go:1690", after := #[{ on := 24, ground := Ground.data }, { on := 20, ground := Ground.chain }, { on := 0, ground := Ground.phase }, { on := 1, ground := Ground.phase }, { on := 2, ground := Ground.phase }, { on := 3, ground := Ground.phase }, { on := 4, ground := Ground.phase }, { on := 5, ground := Ground.phase }, { on := 6, ground := Ground.phase }, { on := 7, ground := Ground.phase }, { on := 8, ground := Ground.phase }, { on := 9, ground := Ground.phase }, { on := 10, ground := Ground.phase }, { on := 11, ground := Ground.phase }, { on := 12, ground := Ground.phase }, { on := 13, ground := Ground.phase }, { on := 14, ground := Ground.phase }, { on := 15, ground := Ground.phase }, { on := 16, ground := Ground.phase }, { on := 17, ground := Ground.phase }, { on := 18, ground := Ground.phase }, { on := 19, ground := Ground.phase }, { on := 20, ground := Ground.phase }, { on := 21, ground := Ground.phase }, { on := 22, ground := Ground.phase }, { on := 23, ground := Ground.phase }, { on := 24, ground := Ground.phase }], guard := none }) (v := ?v24) rfl (by kernel_rfl) (by kernel_rfl) (by kernel_rfl) (fun _ _ _ h => h) (Or.inl ⟨by rfl, ?hy24⟩) trivial ?rest24
            case hy24 => (intro w9 hS9; go_simp; (try with_reducible rfl))
            simp only [Act.put, List.setIfInBounds_toArray, List.set_cons_zero, List.set_cons_succ]
            refine wpAnyH_done (by kernel_rfl) ?_ _
            refine NoPanic.normal ?_
            go_wp2_with fail
            go_ret
            exact ⟨rfl, hb10⟩
          | false =>
            have hl0 : 0 ≤ l := by have := of_decide_eq_false hl; omega
            have hN := greedy_near (g := gs) (m := ls) (by rw [HL.out]; exact hl0)
            have hF := (least_feeds (g := gs) (m := ls) (by rw [HL.out]; exact hl0)).1
            have hS := (least_said hF).2.2.2
            rw [HL.out] at hN hS
            rw [HSS.out] at hN
            have hr := sz_range hl0 hS
            obtain ⟨y, hy⟩ : ∃ y, sz l = y := ⟨_, rfl⟩
            rw [hy] at hN hr
            have HY := hide hy
            have hw3 : IntKind.i64.wrap (20 * (ss.length : Int)) = 20 * (ss.length : Int) := IntWalk.i64_in _ (by omega)
            have hw4 : IntKind.i64.wrap (49 * y) = 49 * y := IntWalk.i64_in _ (by omega)
            have hdN : decide (20 * (ss.length : Int) ≤ 49 * y) = true := decide_eq_true hN
            clear hy hF
            go_wp2_with fail
            refine (implDishesLeast_any _ _ _ _ _ HIr.out (by omega)).mono ?_
            rintro e w8 ⟨rfl, hB8⟩
            rw [HL.out]
            have hb8 := next (next hb5 hbr) hB8
            have HI8 := hide (HIr.out.below hB8)
            clear hB8
            go_wp2_with fail
            refine wp_region_noPanic ?_
            refine wp_region_held_drew (S := fun _ => True) (by kernel_rfl) trivial (fun hHeld => ?_)
            clear hHeld
            refine wpAnyH_take (i := 0) (oi := { dst := some 82, op := Op.move (Operand.tmp 3), type := 3, pos := "laws.go:1690", after := #[], guard := none }) (v := ?v25) rfl (by kernel_rfl) (by kernel_rfl) (by kernel_rfl) (fun _ _ _ h => h) (Or.inl ⟨by rfl, ?hy25⟩) trivial ?rest25
            case hy25 => (intro w9 hS9; go_simp; (try with_reducible rfl))
            simp only [Act.put, List.setIfInBounds_toArray, List.set_cons_zero, List.set_cons_succ]
            refine wpAnyH_take (i := 1) (oi := { dst := some 83, op := Op.move (Operand.tmp 4), type := 23, pos := "laws.go:1690", after := #[], guard := none }) (v := ?v26) rfl (by kernel_rfl) (by kernel_rfl) (by kernel_rfl) (fun _ _ _ h => h) (Or.inl ⟨by rfl, ?hy26⟩) trivial ?rest26
            case hy26 => (intro w9 hS9; go_simp; (try with_reducible rfl))
            simp only [Act.put, List.setIfInBounds_toArray, List.set_cons_zero, List.set_cons_succ]
            refine wpAnyH_take (i := 2) (oi := { dst := some 84, op := Op.move (Operand.tmp 6), type := 3, pos := "laws.go:1690", after := #[], guard := none }) (v := ?v27) rfl (by kernel_rfl) (by kernel_rfl) (by kernel_rfl) (fun _ _ _ h => h) (Or.inl ⟨by rfl, ?hy27⟩) trivial ?rest27
            case hy27 => (intro w9 hS9; go_simp; (try with_reducible rfl))
            simp only [Act.put, List.setIfInBounds_toArray, List.set_cons_zero, List.set_cons_succ]
            refine wpAnyH_take (i := 4) (oi := { dst := some 86, op := Op.move (Operand.tmp 3), type := 3, pos := "laws.go:1690", after := #[], guard := none }) (v := ?v28) rfl (by kernel_rfl) (by kernel_rfl) (by kernel_rfl) (fun _ _ _ h => h) (Or.inl ⟨by rfl, ?hy28⟩) trivial ?rest28
            case hy28 => (intro w9 hS9; go_simp; (try with_reducible rfl))
            simp only [Act.put, List.setIfInBounds_toArray, List.set_cons_zero, List.set_cons_succ]
            refine wpAnyH_take (i := 5) (oi := { dst := some 87, op := Op.move (Operand.tmp 4), type := 23, pos := "laws.go:1690", after := #[], guard := none }) (v := ?v29) rfl (by kernel_rfl) (by kernel_rfl) (by kernel_rfl) (fun _ _ _ h => h) (Or.inl ⟨by rfl, ?hy29⟩) trivial ?rest29
            case hy29 => (intro w9 hS9; go_simp; (try with_reducible rfl))
            simp only [Act.put, List.setIfInBounds_toArray, List.set_cons_zero, List.set_cons_succ]
            refine wpAnyH_take (i := 6) (oi := { dst := some 88, op := Op.move (Operand.tmp 4), type := 23, pos := "laws.go:1690", after := #[], guard := none }) (v := ?v30) rfl (by kernel_rfl) (by kernel_rfl) (by kernel_rfl) (fun _ _ _ h => h) (Or.inl ⟨by rfl, ?hy30⟩) trivial ?rest30
            case hy30 => (intro w9 hS9; go_simp; (try with_reducible rfl))
            simp only [Act.put, List.setIfInBounds_toArray, List.set_cons_zero, List.set_cons_succ]
            refine wpAnyH_take (i := 7) (oi := { dst := some 89, op := Op.call { callee := Callee.builtin Builtin.len, args := #[Operand.tmp 88], argTypes := #[23] }, type := 3, pos := "laws.go:1690", after := #[{ on := 6, ground := Ground.data }], guard := none }) (v := ?v31) rfl (by kernel_rfl) (by kernel_rfl) (by kernel_rfl) (fun _ _ _ h => h) (Or.inl ⟨by rfl, ?hy31⟩) trivial ?rest31
            case hy31 => (intro w9 hS9; go_simp; (try with_reducible rfl))
            simp only [Act.put, List.setIfInBounds_toArray, List.set_cons_zero, List.set_cons_succ]
            refine wpAnyH_take (i := 8) (oi := { dst := some 90, op := Op.binOp BinOp.shl 3 (Operand.const (Value.int IntKind.i64 1)) (Operand.tmp 89) 3, type := 3, pos := "laws.go:1690", after := #[{ on := 7, ground := Ground.data }], guard := none }) (v := ?v32) rfl (by kernel_rfl) (by kernel_rfl) (by kernel_rfl) (fun _ _ _ h => h) (Or.inl ⟨by rfl, ?hy32⟩) trivial ?rest32
            case hy32 => (intro w9 hS9; go_simp; (try with_reducible rfl))
            simp only [Act.put, List.setIfInBounds_toArray, List.set_cons_zero, List.set_cons_succ]
            refine wpAnyH_take (i := 9) (oi := { dst := some 91, op := Op.binOp BinOp.sub 3 (Operand.tmp 90) (Operand.const (Value.int IntKind.i64 1)) 3, type := 3, pos := "laws.go:1690", after := #[{ on := 8, ground := Ground.data }], guard := none }) (v := ?v33) rfl (by kernel_rfl) (by kernel_rfl) (by kernel_rfl) (fun _ _ _ h => h) (Or.inl ⟨by rfl, ?hy33⟩) trivial ?rest33
            case hy33 => (intro w9 hS9; go_simp; (try with_reducible rfl))
            simp only [Act.put, List.setIfInBounds_toArray, List.set_cons_zero, List.set_cons_succ]
            refine wpAnyH_ready (rs := [3]) (by kernel_rfl) (by simp) ?_
            refine AllReadyH.cons (o := { dst := some 85, op := Op.call { callee := Callee.value (Operand.func 22), args := #[Operand.tmp 82, Operand.tmp 83, Operand.tmp 84], argTypes := #[3, 23, 3] }, type := 3, pos := "laws.go:1690", after := #[{ on := 0, ground := Ground.data }, { on := 1, ground := Ground.data }, { on := 2, ground := Ground.data }], guard := none }) rfl (fun K hK => ?_) (AllReadyH.nil)
            go_simp
            go_at_call 22
            refine (HFB.out ch (World.drew w8) (show IntsAt (World.drew w8) _ ls from HI8.out)).mono ?_
            rintro e w9 ⟨rfl, hB9⟩
            rw [HF1.out]
            have hb89 : Below w8.heap.size w8 w9 := ⟨hB9.os, hB9.tape, hB9.output, hB9.size, hB9.block⟩
            have hb9 := next hb8 hb89
            have HI9 := hide (HI8.out.below hb89)
            clear hB9 hb89
            go_wp2_with fail
            refine hK.out _ _ trivial (fun _ => ?_)
            clear hK K
            try simp only [Act.put, List.setIfInBounds_toArray, List.set_cons_zero, List.set_cons_succ]
            refine wpAnyH_ready (rs := [10]) (by kernel_rfl) (by simp) ?_
            refine AllReadyH.cons (o := { dst := some 92, op := Op.call { callee := Callee.value (Operand.func 22), args := #[Operand.tmp 86, Operand.tmp 87, Operand.tmp 91], argTypes := #[3, 23, 3] }, type := 3, pos := "laws.go:1690", after := #[{ on := 4, ground := Ground.data }, { on := 5, ground := Ground.data }, { on := 9, ground := Ground.data }, { on := 3, ground := Ground.chain }], guard := none }) rfl (fun K hK => ?_) (AllReadyH.nil)
            go_simp
            go_at_call 22
            refine (HCF2.out _ HI9.out).mono ?_
            rintro e w10 ⟨rfl, hB10⟩
            have hb10 := next hb9 hB10
            clear hB10
            go_wp2_with fail
            refine hK.out _ _ trivial (fun _ => ?_)
            clear hK K
            try simp only [Act.put, List.setIfInBounds_toArray, List.set_cons_zero, List.set_cons_succ]
            refine wpAnyH_take (i := 11) (oi := { dst := some 93, op := Op.binOp BinOp.eql 3 (Operand.tmp 85) (Operand.tmp 92) 3, type := 4, pos := "laws.go:1690", after := #[{ on := 3, ground := Ground.data }, { on := 10, ground := Ground.data }], guard := none }) (v := ?v34) rfl (by kernel_rfl) (by kernel_rfl) (by kernel_rfl) (fun _ _ _ h => h) (Or.inl ⟨by rfl, ?hy34⟩) trivial ?rest34
            case hy34 => (intro w9 hS9; go_simp; (try with_reducible rfl))
            simp only [Act.put, List.setIfInBounds_toArray, List.set_cons_zero, List.set_cons_succ]
            refine wpAnyH_take (i := 12) (oi := { dst := some 94, op := Op.move (Operand.tmp 93), type := 4, pos := "laws.go:1690", after := #[{ on := 11, ground := Ground.data }, { on := 10, ground := Ground.chain }], guard := none }) (v := ?v35) rfl (by kernel_rfl) (by kernel_rfl) (by kernel_rfl) (fun _ _ _ h => h) (Or.inl ⟨by rfl, ?hy35⟩) trivial ?rest35
            case hy35 => (intro w9 hS9; go_simp; (try with_reducible rfl))
            simp only [Act.put, List.setIfInBounds_toArray, List.set_cons_zero, List.set_cons_succ]
            refine wpAnyH_take (i := 13) (oi := { dst := some 95, op := Op.move (Operand.tmp 12), type := 3, pos := "laws.go:1690", after := #[{ on := 12, ground := Ground.guard }], guard := some (12, true) }) (v := ?v36) rfl (by kernel_rfl) (by kernel_rfl) (by kernel_rfl) (fun _ _ _ h => h) (Or.inl ⟨by rfl, ?hy36⟩) trivial ?rest36
            case hy36 => (intro w9 hS9; go_simp; (try with_reducible rfl))
            simp only [Act.put, List.setIfInBounds_toArray, List.set_cons_zero, List.set_cons_succ]
            refine wpAnyH_take (i := 14) (oi := { dst := some 96, op := Op.binOp BinOp.lss 3 (Operand.tmp 95) (Operand.const (Value.int IntKind.i64 0)) 3, type := 4, pos := "laws.go:1690", after := #[{ on := 13, ground := Ground.data }, { on := 12, ground := Ground.guard }], guard := some (12, true) }) (v := ?v37) rfl (by kernel_rfl) (by kernel_rfl) (by kernel_rfl) (fun _ _ _ h => h) (Or.inl ⟨by rfl, ?hy37⟩) trivial ?rest37
            case hy37 => (intro w9 hS9; go_simp; (try with_reducible rfl))
            simp only [Act.put, List.setIfInBounds_toArray, List.set_cons_zero, List.set_cons_succ]
            refine wpAnyH_take (i := 15) (oi := { dst := some 97, op := Op.move (Operand.tmp 96), type := 4, pos := "laws.go:1690", after := #[{ on := 14, ground := Ground.data }, { on := 12, ground := Ground.chain }, { on := 12, ground := Ground.guard }], guard := some (12, true) }) (v := ?v38) rfl (by kernel_rfl) (by kernel_rfl) (by kernel_rfl) (fun _ _ _ h => h) (Or.inl ⟨by rfl, ?hy38⟩) trivial ?rest38
            case hy38 => (intro w9 hS9; go_simp; (try with_reducible rfl))
            simp only [Act.put, List.setIfInBounds_toArray, List.set_cons_zero, List.set_cons_succ]
            refine wpAnyH_take (i := 16) (oi := { dst := some 98, op := Op.move (Operand.tmp 5), type := 23, pos := "laws.go:1690", after := #[{ on := 15, ground := Ground.guard }], guard := some (15, false) }) (v := ?v39) rfl (by kernel_rfl) (by kernel_rfl) (by kernel_rfl) (fun _ _ _ h => h) (Or.inl ⟨by rfl, ?hy39⟩) trivial ?rest39
            case hy39 => (intro w9 hS9; go_simp; (try with_reducible rfl))
            simp only [Act.put, List.setIfInBounds_toArray, List.set_cons_zero, List.set_cons_succ]
            refine wpAnyH_take (i := 17) (oi := { dst := some 99, op := Op.call { callee := Callee.builtin Builtin.len, args := #[Operand.tmp 98], argTypes := #[23] }, type := 3, pos := "laws.go:1690", after := #[{ on := 16, ground := Ground.data }, { on := 15, ground := Ground.guard }], guard := some (15, false) }) (v := ?v40) rfl (by kernel_rfl) (by kernel_rfl) (by kernel_rfl) (fun _ _ _ h => h) (Or.inl ⟨by rfl, ?hy40⟩) trivial ?rest40
            case hy40 => (intro w9 hS9; go_simp; (try with_reducible rfl))
            simp only [Act.put, List.setIfInBounds_toArray, List.set_cons_zero, List.set_cons_succ]
            refine wpAnyH_take (i := 18) (oi := { dst := some 100, op := Op.binOp BinOp.mul 3 (Operand.const (Value.int IntKind.i64 20)) (Operand.tmp 99) 3, type := 3, pos := "laws.go:1690", after := #[{ on := 17, ground := Ground.data }, { on := 15, ground := Ground.guard }], guard := some (15, false) }) (v := ?v41) rfl (by kernel_rfl) (by kernel_rfl) (by kernel_rfl) (fun _ _ _ h => h) (Or.inl ⟨by rfl, ?hy41⟩) trivial ?rest41
            case hy41 => (intro w9 hS9; go_simp; (try with_reducible rfl))
            simp only [Act.put, List.setIfInBounds_toArray, List.set_cons_zero, List.set_cons_succ]
            refine wpAnyH_take (i := 19) (oi := { dst := some 101, op := Op.move (Operand.tmp 12), type := 3, pos := "laws.go:1690", after := #[{ on := 15, ground := Ground.guard }], guard := some (15, false) }) (v := ?v42) rfl (by kernel_rfl) (by kernel_rfl) (by kernel_rfl) (fun _ _ _ h => h) (Or.inl ⟨by rfl, ?hy42⟩) trivial ?rest42
            case hy42 => (intro w9 hS9; go_simp; (try with_reducible rfl))
            simp only [Act.put, List.setIfInBounds_toArray, List.set_cons_zero, List.set_cons_succ]
            refine wpAnyH_ready (rs := [20]) (by kernel_rfl) (by simp) ?_
            refine AllReadyH.cons (o := { dst := some 102, op := Op.call { callee := Callee.value (Operand.func 13), args := #[Operand.tmp 101], argTypes := #[3] }, type := 3, pos := "laws.go:1690", after := #[{ on := 19, ground := Ground.data }, { on := 15, ground := Ground.chain }, { on := 15, ground := Ground.guard }], guard := some (15, false) }) rfl (fun K hK => ?_) (AllReadyH.nil)
            go_simp
            go_at_call 13
            refine (bitsOf_any _ _ hl0 (by omega)).mono ?_
            rintro e w11 ⟨rfl, rfl⟩
            rw [HY.out]
            go_wp2_with fail
            refine hK.out _ _ trivial (fun _ => ?_)
            clear hK K
            try simp only [Act.put, List.setIfInBounds_toArray, List.set_cons_zero, List.set_cons_succ]
            refine wpAnyH_take (i := 21) (oi := { dst := some 103, op := Op.binOp BinOp.mul 3 (Operand.const (Value.int IntKind.i64 49)) (Operand.tmp 102) 3, type := 3, pos := "laws.go:1690", after := #[{ on := 20, ground := Ground.data }, { on := 15, ground := Ground.guard }], guard := some (15, false) }) (v := ?v43) rfl (by kernel_rfl) (by kernel_rfl) (by kernel_rfl) (fun _ _ _ h => h) (Or.inl ⟨by rfl, ?hy43⟩) trivial ?rest43
            case hy43 => (intro w9 hS9; go_simp; (try with_reducible rfl))
            simp only [Act.put, List.setIfInBounds_toArray, List.set_cons_zero, List.set_cons_succ]
            refine wpAnyH_take (i := 22) (oi := { dst := some 104, op := Op.binOp BinOp.leq 3 (Operand.tmp 100) (Operand.tmp 103) 3, type := 4, pos := "laws.go:1690", after := #[{ on := 18, ground := Ground.data }, { on := 21, ground := Ground.data }, { on := 15, ground := Ground.guard }], guard := some (15, false) }) (v := ?v44) rfl (by kernel_rfl) (by kernel_rfl) (by kernel_rfl) (fun _ _ _ h => h) (Or.inl ⟨by rfl, ?hy44⟩) trivial ?rest44
            case hy44 => (intro w9 hS9; go_simp; (try with_reducible rfl))
            simp only [Act.put, List.setIfInBounds_toArray, List.set_cons_zero, List.set_cons_succ]
            refine wpAnyH_take (i := 23) (oi := { dst := some 105, op := Op.pick (Operand.tmp 97) (Operand.const (Value.bool true)) (Operand.tmp 104), type := 4, pos := "laws.go:1690", after := #[{ on := 15, ground := Ground.data }, { on := 22, ground := Ground.data }, { on := 12, ground := Ground.guard }], guard := some (12, true) }) (v := ?v45) rfl (by kernel_rfl) (by kernel_rfl) (by kernel_rfl) (fun _ _ _ h => h) (Or.inl ⟨by rfl, ?hy45⟩) trivial ?rest45
            case hy45 => (intro w9 hS9; go_simp; (try with_reducible rfl))
            simp only [Act.put, List.setIfInBounds_toArray, List.set_cons_zero, List.set_cons_succ]
            refine wpAnyH_take (i := 24) (oi := { dst := some 106, op := Op.pick (Operand.tmp 94) (Operand.tmp 105) (Operand.const (Value.bool false)), type := 4, pos := "laws.go:1690", after := #[{ on := 12, ground := Ground.data }, { on := 23, ground := Ground.data }], guard := none }) (v := ?v46) rfl (by kernel_rfl) (by kernel_rfl) (by kernel_rfl) (fun _ _ _ h => h) (Or.inl ⟨by rfl, ?hy46⟩) trivial ?rest46
            case hy46 => (intro w9 hS9; go_simp; (try with_reducible rfl))
            simp only [Act.put, List.setIfInBounds_toArray, List.set_cons_zero, List.set_cons_succ]
            refine wpAnyH_take (i := 25) (oi := { dst := some 2, op := Op.assign (Operand.tmp 106), type := 4, pos := "laws.go:1690", after := #[{ on := 24, ground := Ground.data }, { on := 20, ground := Ground.chain }, { on := 0, ground := Ground.phase }, { on := 1, ground := Ground.phase }, { on := 2, ground := Ground.phase }, { on := 3, ground := Ground.phase }, { on := 4, ground := Ground.phase }, { on := 5, ground := Ground.phase }, { on := 6, ground := Ground.phase }, { on := 7, ground := Ground.phase }, { on := 8, ground := Ground.phase }, { on := 9, ground := Ground.phase }, { on := 10, ground := Ground.phase }, { on := 11, ground := Ground.phase }, { on := 12, ground := Ground.phase }, { on := 13, ground := Ground.phase }, { on := 14, ground := Ground.phase }, { on := 15, ground := Ground.phase }, { on := 16, ground := Ground.phase }, { on := 17, ground := Ground.phase }, { on := 18, ground := Ground.phase }, { on := 19, ground := Ground.phase }, { on := 20, ground := Ground.phase }, { on := 21, ground := Ground.phase }, { on := 22, ground := Ground.phase }, { on := 23, ground := Ground.phase }, { on := 24, ground := Ground.phase }], guard := none }) (v := ?v47) rfl (by kernel_rfl) (by kernel_rfl) (by kernel_rfl) (fun _ _ _ h => h) (Or.inl ⟨by rfl, ?hy47⟩) trivial ?rest47
            case hy47 => (intro w9 hS9; go_simp; (try with_reducible rfl))
            simp only [Act.put, List.setIfInBounds_toArray, List.set_cons_zero, List.set_cons_succ]
            refine wpAnyH_done (by kernel_rfl) ?_ _
            refine NoPanic.normal ?_
            go_wp2_with fail
            go_ret
            exact ⟨rfl, hb10⟩
end Go.Proofs.YthbainbgimbjeaaDoor
