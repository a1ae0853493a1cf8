/- Contracts of the reader of drawn bytes: pick and odd.
   Conditions: the bounds in each statement. -/
import Derived.Test.YtaelapimchmbcaaDoorAlive
import Derived.Maps.AppendAt
import Derived.Deep.AppendLies
import Derived.Deep.RegionLaw
namespace Go.Proofs.YtaelapimchmbcaaDoor
open Go.RowKit

/-- Block b is a reader of at most 2000 bytes that lie below it; at most n picks have been made. -/
def Rd (w : World) (b n : Nat) : Prop :=
  ∃ A c m p, p ≤ n ∧ m ≤ 2000 ∧ w.heap[b]? = some (.cells #[.slice A m c, .int .i64 (p : Nat)] 64 (0, 0)) ∧
    ∀ i, i < m → ∃ ab off v, A = some ⟨ab, off, none⟩ ∧ ab < b ∧ 0 ≤ v ∧ v ≤ 255 ∧ w.cell? ⟨ab, off + i, none⟩ = some (.int .u8 v)

theorem Rd.lt {w : World} {b n : Nat} (h : Rd w b n) : b < w.heap.size := by
  obtain ⟨_, _, _, _, _, _, h, _⟩ := h
  exact (Array.getElem?_eq_some_iff.1 h).1

theorem Rd.kept {w w' : World} {b n : Nat} (h : Rd w b n) (hk : ∀ k, k ≤ b → w'.heap[k]? = w.heap[k]?) : Rd w' b n := by
  obtain ⟨A, c, m, p, h1, h2, h3, h4⟩ := h
  refine ⟨A, c, m, p, h1, h2, (hk b (Nat.le_refl _)).trans h3, fun i hi => ?_⟩
  obtain ⟨ab, off, v, e, hlt, h5, h6, h7⟩ := h4 i hi
  exact ⟨ab, off, v, e, hlt, h5, h6, (World.cell?_of_block (hk ab (by omega))).trans h7⟩

theorem Rd.below {w w' : World} {b n B : Nat} (h : Rd w b n) (hb : Below B w w') (hB : b < B) : Rd w' b n := h.kept (fun k hk => hb.block k (by omega))
theorem Rd.mono {w : World} {b n n' : Nat} (h : Rd w b n) (hn : n ≤ n') : Rd w b n' := by
  obtain ⟨A, c, m, p, h1, r⟩ := h
  exact ⟨A, c, m, p, Nat.le_trans h1 hn, r⟩

theorem wrap_nat {a : Int} (h0 : 0 ≤ a) (h1 : a ≤ 9223372036854775807) : IntKind.i64.wrap a = a := IntWalk.i64_in _ (by omega)

theorem xor_i64 (a b : Nat) (ha : a < 9223372036854775808) (hb : b < 9223372036854775808) : 0 ≤ bits .xor .i64 (a : Int) (b : Int) ∧ bits .xor .i64 (a : Int) (b : Int) ≤ 9223372036854775807 := by
  have hx : a ^^^ b < 2 ^ 63 := Nat.xor_lt_two_pow (by omega) (by omega)
  have h1 : (BitVec.ofInt 64 (a : Int)).toNat = a := by
    rw [BitVec.ofInt_natCast, BitVec.toNat_ofNat]; exact Nat.mod_eq_of_lt (by omega)
  have h2 : (BitVec.ofInt 64 (b : Int)).toNat = b := by
    rw [BitVec.ofInt_natCast, BitVec.toNat_ofNat]; exact Nat.mod_eq_of_lt (by omega)
  have e : bits .xor .i64 (a : Int) (b : Int) = ((a ^^^ b : Nat) : Int) := by
    show IntKind.i64.wrap ((BitVec.ofInt 64 (a : Int) ^^^ BitVec.ofInt 64 (b : Int)).toNat : Int) = _
    rw [BitVec.toNat_xor, h1, h2, IntKind.wrap_i64]
    omega
  rw [e]
  omega

theorem xor_i64' (a b : Int) (ha0 : 0 ≤ a) (ha : a ≤ 1000000000000) (hb0 : 0 ≤ b) (hb : b ≤ 1000000000000) : 0 ≤ bits .xor .i64 a b ∧ bits .xor .i64 a b ≤ 9223372036854775807 := by
  have := xor_i64 a.toNat b.toNat (by omega) (by omega)
  rwa [Int.toNat_of_nonneg ha0, Int.toNat_of_nonneg hb0] at this

def Picked (w : World) (b n : Nat) (k : Int) (e : Ending) (w' : World) : Prop := ∃ v : Int, e = .returned (.int .i64 v) ∧ 0 ≤ v ∧ v < max k 1 ∧ Rd w' b (n + 1) ∧ w.grownBy w' (some b)

set_option maxRecDepth 100000 in
set_option maxHeartbeats 2000000 in
theorem pick_any (b n : Nat) (k : Int) (w : World) (hR : Rd w b n) (hn : n ≤ 100000) (hk : k ≤ 1000000) :
    Calls Tryd.prog 30 #[.pointer (some ⟨b, 0, none⟩), .int .i64 k] w (Picked w b n k) := by
  obtain ⟨A, c, m, p, hp, hm, hb, hcs⟩ := hR
  have hblt := (Array.getElem?_eq_some_iff.1 hb).1
  have hc0 : w.cell? ⟨b, 0, none⟩ = some (.slice A m c) := by rw [cell_of_row w b 0 _ _ _ hb]; rfl
  have hc1 : w.cell? ⟨b, 1, none⟩ = some (.int .i64 p) := by rw [cell_of_row w b 1 _ _ _ hb]; rfl
  have hf := frozen_of_row w b 1 _ _ hb
  have HG : Hid (w.grownBy (w.setCell ⟨b, 1, none⟩ (.int .i64 ((p : Int) + 1))) (some b)) := hide ⟨rfl, rfl, rfl, by simp, fun j _ hj => heap_setCell_other w ⟨b, 1, none⟩ j _ (fun e => hj (by simp [e]))⟩
  have HR : Hid (Rd (w.setCell ⟨b, 1, none⟩ (.int .i64 ((p : Int) + 1))) b (n + 1)) := hide (by
    refine ⟨A, c, m, p + 1, by omega, hm, ?_, fun i hi => ?_⟩
    · rw [heap_setCell_same w b 1 _ _ _ hb]; rfl
    · obtain ⟨ab, off, v, e, hlt, h5, h6, h7⟩ := hcs i hi
      exact ⟨ab, off, v, e, hlt, h5, h6, (World.cell?_of_block (heap_setCell_other w ⟨b, 1, none⟩ ab _ (by simp; omega))).trans h7⟩)
  have HCS := hide hcs
  clear hcs hb
  by_cases hk1 : k < 1
  · have hd : decide (k < 1) = true := decide_eq_true hk1
    go_enter Tryd.func30, Tryd.ntmps30
    go_wp2_with fail
    go_ret
    exact ⟨0, rfl, by omega, by omega, HR.out, HG.out⟩
  · have hd : decide (k < 1) = false := decide_eq_false hk1
    by_cases hm0 : m = 0
    · subst hm0
      go_enter Tryd.func30, Tryd.ntmps30
      go_wp2_with fail
      go_ret
      exact ⟨0, rfl, by omega, by omega, HR.out, HG.out⟩
    · have hm1 : ((m : Int) == 0) = false := by simp; omega
      by_cases hpm : p < m
      · obtain ⟨ab, off, v, rfl, hlt, hv0, hv1, hcv⟩ := HCS.out p hpm
        have hne : ab ≠ b := by omega
        have hz : (0 : Int) ≤ p := by omega
        have hz2 : (p : Int) < m := by omega
        go_enter Tryd.func30, Tryd.ntmps30
        go_wp2_with fail
        go_ret
        exact ⟨v % k, rfl, Int.emod_nonneg _ (by omega), by have := Int.emod_lt_of_pos v (show 0 < k by omega); omega, HR.out, HG.out⟩
      · obtain ⟨i1, hi1⟩ : ∃ i1 : Nat, i1 = p % m := ⟨_, rfl⟩
        obtain ⟨i2, hi2⟩ : ∃ i2 : Nat, i2 = (p * 7 + 3) % m := ⟨_, rfl⟩
        obtain ⟨q, hq⟩ : ∃ q : Nat, q = p / m := ⟨_, rfl⟩
        have hi1m : i1 < m := by rw [hi1]; exact Nat.mod_lt _ (by omega)
        have hi2m : i2 < m := by rw [hi2]; exact Nat.mod_lt _ (by omega)
        have hqp : q ≤ p := by rw [hq]; exact Nat.div_le_self _ _
        have ht1 : (p : Int).tmod m = i1 := by rw [hi1]; exact (Int.ofNat_tmod p m).symm
        have ht2 : ((p : Int) * 7 + 3).tmod m = i2 := by rw [hi2]; exact (Int.ofNat_tmod (p * 7 + 3) m).symm
        have ht3 : (p : Int).tdiv m = q := by rw [hq]; exact (Int.ofNat_tdiv p m).symm
        have HT := hide (And.intro hi1 (And.intro hi2 hq))
        clear hi1 hi2 hq
        obtain ⟨ab, off, v1, rfl, hlt, hv0, hv1, hcv⟩ := HCS.out i1 hi1m
        obtain ⟨ab', off', v2, he, hlt', hu0, hu1, hcu⟩ := HCS.out i2 hi2m
        injection he with he
        injection he with he1 he2
        subst he1 he2
        have hne : ab ≠ b := by omega
        have hz1 : (0 : Int) ≤ i1 := by omega
        have hz2 : (i1 : Int) < m := by omega
        have hz3 : (0 : Int) ≤ i2 := by omega
        have hz4 : (i2 : Int) < m := by omega
        have hp0 : (0 : Int) ≤ p := by omega
        have hp1 : (p : Int) ≤ 100000 := by omega
        have hq0 : (0 : Int) ≤ q := by omega
        have hq1 : (q : Int) ≤ 100000 := by omega
        obtain ⟨s, HS⟩ : ∃ s : Int, Hid (v1 * 131 + v2 * 1117 + (p : Int) * 29 + (q : Int) * 53 = s) := ⟨_, hide rfl⟩
        have hs0 : 0 ≤ s := by rw [← HS.out]; omega
        have hs1 : s ≤ 1000000000 := by rw [← HS.out]; omega
        have hx := xor_i64' s (s / 64) hs0 (by omega) (by omega) (by omega)
        obtain ⟨y, hy⟩ : ∃ y, bits .xor .i64 s (s / 64) = y := ⟨_, rfl⟩
        rw [hy] at hx
        obtain ⟨hy0, hy1⟩ := hx
        have hw0 : IntKind.i64.wrap v1 = v1 := wrap_nat hv0 (by omega)
        have hw0' : IntKind.i64.wrap v2 = v2 := wrap_nat hu0 (by omega)
        have hw1 : IntKind.i64.wrap (v1 * 131) = v1 * 131 := wrap_nat (by omega) (by omega)
        have hw2 : IntKind.i64.wrap ((p : Int) * 7) = (p : Int) * 7 := wrap_nat (by omega) (by omega)
        have hw3 : IntKind.i64.wrap ((p : Int) * 7 + 3) = (p : Int) * 7 + 3 := wrap_nat (by omega) (by omega)
        have hw4 : IntKind.i64.wrap (v2 * 1117) = v2 * 1117 := wrap_nat (by omega) (by omega)
        have hw5 : IntKind.i64.wrap (v1 * 131 + v2 * 1117) = v1 * 131 + v2 * 1117 := wrap_nat (by omega) (by omega)
        have hw6 : IntKind.i64.wrap ((p : Int) * 29) = (p : Int) * 29 := wrap_nat (by omega) (by omega)
        have hw7 : IntKind.i64.wrap (v1 * 131 + v2 * 1117 + (p : Int) * 29) = v1 * 131 + v2 * 1117 + (p : Int) * 29 := wrap_nat (by omega) (by omega)
        have hw8 : IntKind.i64.wrap ((q : Int) * 53) = (q : Int) * 53 := wrap_nat (by omega) (by omega)
        have hw9 : IntKind.i64.wrap (v1 * 131 + v2 * 1117 + (p : Int) * 29 + (q : Int) * 53) = s := by rw [← HS.out]; exact wrap_nat (by omega) (by omega)
        have hwi : IntKind.i64.wrap (i1 : Int) = i1 := wrap_nat (by omega) (by omega)
        have hwi2 : IntKind.i64.wrap (i2 : Int) = i2 := wrap_nat (by omega) (by omega)
        have hwq : IntKind.i64.wrap (q : Int) = q := wrap_nat (by omega) (by omega)
        go_enter Tryd.func30, Tryd.ntmps30
        go_wp2_with fail
        go_quiet (fail)
        clear hw0 hw0' hw1 hw2 hw3 hw4 hw5 hw6 hw7 hw8 hw9 hwi hwi2 hwq ht1 ht2 ht3
        go_wp2_with fail
        go_ret
        exact ⟨y % k, rfl, Int.emod_nonneg _ (by omega), by have := Int.emod_lt_of_pos y (show 0 < k by omega); omega, HR.out.kept (fun _ _ => rfl), HG.out.trans ⟨rfl, rfl, rfl, Nat.le_refl _, fun _ _ _ => rfl⟩⟩

def Odd (w : World) (b n : Nat) (e : Ending) (w' : World) : Prop := ∃ v : Bool, e = .returned (.bool v) ∧ Rd w' b (n + 1) ∧ w.grownBy w' (some b)

set_option maxHeartbeats 1000000 in
theorem odd_any (b n : Nat) (k : Int) (w : World) (hR : Rd w b n) (hn : n ≤ 100000) (hk : k ≤ 1000000) :
    Calls Tryd.prog 38 #[.pointer (some ⟨b, 0, none⟩), .int .i64 k] w (Odd w b n) := by
  by_cases hk1 : 0 < k
  · have hd : decide (0 < k) = true := decide_eq_true hk1
    go_enter Tryd.func38, Tryd.ntmps38
    go_wp2_with fail
    refine (pick_any b n k w hR hn hk).mono ?_
    rintro e w1 ⟨v, rfl, hv0, hv1, hR1, hg1⟩
    have hb : -9223372036854775808 ≤ k := by omega
    have hk2 : IntKind.i64.wrap (k - 1) = k - 1 := IntWalk.i64_in _ (by omega)
    go_wp2_with fail
    go_ret
    exact ⟨_, rfl, hR1, hg1⟩
  · have hd : decide (0 < k) = false := decide_eq_false hk1
    go_enter Tryd.func38, Tryd.ntmps38
    go_wp2_with fail
    go_ret
    exact ⟨_, rfl, hR.mono (by omega), World.grownBy.refl _ _⟩

def BytesIn (w : World) (A : Option Addr) (m : Nat) : Prop := ∀ i, i < m → ∃ ab off v, A = some ⟨ab, off, none⟩ ∧ ab < w.heap.size ∧ 0 ≤ v ∧ v ≤ 255 ∧ w.cell? ⟨ab, off + i, none⟩ = some (.int .u8 v)

set_option maxHeartbeats 1000000 in
theorem open_any (A : Option Addr) (c m : Nat) (w : World) (hB : BytesIn w A m) (hm : m ≤ 9223372036854775807) (hc : m ≤ c) (hc2 : c ≤ 9223372036854775807) :
    Calls Tryd.prog 21 #[.slice A m c] w fun e w' => e = .returned (.pointer (some ⟨w.heap.size, 0, none⟩)) ∧ Rd w' w.heap.size 0 ∧ Below w.heap.size w w' := by
  have hR : ∀ k : Nat, ∀ c', k ≤ 2000 → k ≤ m → Rd (w.alloc (.cells #[.slice A k c', .int .i64 ((0 : Nat) : Int)] 64)) w.heap.size 0 := fun k c' h1 h2 =>
    ⟨A, c', k, 0, Nat.le_refl _, h1, heap_alloc_new w _, fun i hi => by
      obtain ⟨ab, off, v, e, hlt, h5, h6, h7⟩ := hB i (by omega)
      exact ⟨ab, off, v, e, hlt, h5, h6, (World.cell?_of_block (heap_alloc_old w _ hlt)).trans h7⟩⟩
  have HR := hide hR
  clear hR
  by_cases h : (2000 : Int) < m
  · go_enter Tryd.func21, Tryd.ntmps21
    go_wp2_with fail
    go_ret
    exact ⟨rfl, HR.out 2000 _ (by omega) (by omega), by go_grown⟩
  · go_enter Tryd.func21, Tryd.ntmps21
    go_wp2_with fail
    go_ret
    exact ⟨rfl, HR.out _ _ (by omega) (by omega), by go_grown⟩
end Go.Proofs.YtaelapimchmbcaaDoor
