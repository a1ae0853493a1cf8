/- PopMath: how many bits a number below 2^64 has: the sum of its bits is what the masks of math/bits compute.
   Conditions: the number is below 2^64.
   GuestMath: sets of guests as numbers below 64: without, in common, how many; plain mathematics.
   Conditions: sets are below 64.
   GuestPop: how many bits a set has: bits.OnesCount and the model's count.
   Conditions: the set is from 0 to the greatest int. -/
import Derived.Lib.BitFns
import Derived.Test.YtgagfaajilbmmaaDoorUses
import Derived.Laws.BitsLemmas
import Derived.Laws.Bits64
namespace Go.Proofs.YtgagfaajilbmmaaDoor
open Go.Lib

/-- How many bits x has. -/
def popN (x : Nat) : Nat := popAux 64 x

theorem popAux_more : ∀ (f x : Nat), x < 2 ^ f → popAux (f + 1) x = popAux f x
  | 0, x, h => by
    have : x = 0 := by simpa using h
    subst this
    rfl
  | f + 1, x, h => by
    rw [popAux, popAux_more f (x / 2) (by rw [Nat.pow_succ] at h; omega), ← popAux]

theorem popN_step (x : Nat) (h : x < 2 ^ 64) : popN x = x % 2 + popN (x / 2) := by
  unfold popN
  rw [popAux_more 63 (x / 2) (by omega)]
  rfl

theorem popN_zero : popN 0 = 0 := by decide +kernel

theorem popAux_split : ∀ (k f x : Nat), popAux (k + f) x = popAux k (x % 2 ^ k) + popAux f (x / 2 ^ k)
  | 0, f, x => by simp [popAux]
  | k + 1, f, x => by
    have e : k + 1 + f = (k + f) + 1 := by omega
    have e1 : x % 2 ^ (k + 1) = x % 2 + 2 * (x / 2 % 2 ^ k) := by rw [Nat.pow_succ', Nat.mod_mul]
    have e2 : x / 2 ^ (k + 1) = x / 2 / 2 ^ k := by rw [Nat.pow_succ', Nat.div_div_eq_div_mul]
    rw [e, popAux, popAux_split k f (x / 2), e1, e2, popAux]
    have e3 : (x % 2 + 2 * (x / 2 % 2 ^ k)) % 2 = x % 2 := by omega
    have e4 : (x % 2 + 2 * (x / 2 % 2 ^ k)) / 2 = x / 2 % 2 ^ k := by omega
    rw [e3, e4]
    omega

theorem and_256 (q r m k : Nat) (hr : r < 256) (hk : k < 256) : (256 * q + r) &&& (256 * m + k) = 256 * (q &&& m) + (r &&& k) := by
  have hd := Nat.and_div_two_pow (n := 8) (a := 256 * q + r) (b := 256 * m + k)
  have hm := Nat.and_mod_two_pow (n := 8) (a := 256 * q + r) (b := 256 * m + k)
  have e1 : (256 * q + r) / 2 ^ 8 = q := by omega
  have e2 : (256 * m + k) / 2 ^ 8 = m := by omega
  have e3 : (256 * q + r) % 2 ^ 8 = r := by omega
  have e4 : (256 * m + k) % 2 ^ 8 = k := by omega
  rw [e1, e2] at hd
  rw [e3, e4] at hm
  omega

/-- The byte c, n times. -/
def rep (c : Nat) : Nat → Nat
  | 0 => 0
  | n + 1 => 256 * rep c n + c

/-- f at each of n bytes. -/
def mapB (f : Nat → Nat) : Nat → Nat → Nat
  | 0, _ => 0
  | n + 1, x => 256 * mapB f n (x / 256) + f (x % 256)

theorem mapB_congr {f g : Nat → Nat} (h : ∀ r, r < 256 → f r = g r) : ∀ n x, mapB f n x = mapB g n x
  | 0, _ => rfl
  | n + 1, x => by rw [mapB, mapB, mapB_congr h n, h _ (Nat.mod_lt _ (by omega))]

theorem mapB_mapB {f g : Nat → Nat} (h : ∀ r, r < 256 → g r < 256) : ∀ n x, mapB f n (mapB g n x) = mapB (fun r => f (g r)) n x
  | 0, _ => rfl
  | n + 1, x => by
    have hr := h (x % 256) (Nat.mod_lt _ (by omega))
    have e1 : (256 * mapB g n (x / 256) + g (x % 256)) / 256 = mapB g n (x / 256) := by omega
    have e2 : (256 * mapB g n (x / 256) + g (x % 256)) % 256 = g (x % 256) := by omega
    rw [mapB, mapB, e1, e2, mapB_mapB h n, mapB]

def b1 (r : Nat) : Nat := (r / 2 &&& 85) + (r &&& 85)
def b2 (r : Nat) : Nat := (r / 4 &&& 51) + (r &&& 51)
def b3 (r : Nat) : Nat := (r / 16 + r) &&& 15

theorem b1_at : ∀ (t : Fin 2) (r : Fin 256), ((128 * t.val + r.val / 2) &&& 85) = (r.val / 2 &&& 85) := by decide +kernel
theorem b2_at : ∀ (t : Fin 4) (r : Fin 256), ((64 * t.val + r.val / 4) &&& 51) = (r.val / 4 &&& 51) := by decide +kernel
theorem b3_at : ∀ (t : Fin 5) (r : Fin 69), ((16 * t.val + (r.val / 16 + r.val)) &&& 15) = ((r.val / 16 + r.val) &&& 15) := by decide +kernel
theorem b1_lt : ∀ r : Fin 256, b1 r.val < 256 := by decide +kernel
theorem b21_small : ∀ r : Fin 256, b2 (b1 r.val) % 16 ≤ 4 ∧ b2 (b1 r.val) < 69 := by decide +kernel
theorem b321 : ∀ r : Fin 256, b3 (b2 (b1 r.val)) = popAux 8 r.val := by decide +kernel
theorem pop8_le : ∀ r : Fin 256, popAux 8 r.val ≤ 8 := by decide +kernel

theorem stage1 : ∀ n x, (x / 2 &&& rep 85 n) + (x &&& rep 85 n) = mapB b1 n x
  | 0, x => by simp [rep, mapB]
  | n + 1, x => by
    have ih := stage1 n (x / 256)
    have hq : x = 256 * (x / 256) + x % 256 := by omega
    generalize x / 256 = q at *
    have hr : x % 256 < 256 := Nat.mod_lt _ (by omega)
    generalize x % 256 = r at *
    subst hq
    have e1 : (256 * q + r) / 256 = q := by omega
    have e2 : (256 * q + r) % 256 = r := by omega
    have e3 : (256 * q + r) / 2 = 256 * (q / 2) + (128 * (q % 2) + r / 2) := by omega
    rw [mapB, e1, e2, ← ih, rep, and_256 _ _ _ _ hr (by omega), e3, and_256 _ _ _ _ (by omega) (by omega)]
    have := b1_at ⟨q % 2, by omega⟩ ⟨r, hr⟩
    simp only at this
    rw [this]
    unfold b1
    omega

theorem stage2 : ∀ n x, (x / 4 &&& rep 51 n) + (x &&& rep 51 n) = mapB b2 n x
  | 0, x => by simp [rep, mapB]
  | n + 1, x => by
    have ih := stage2 n (x / 256)
    have hq : x = 256 * (x / 256) + x % 256 := by omega
    generalize x / 256 = q at *
    have hr : x % 256 < 256 := Nat.mod_lt _ (by omega)
    generalize x % 256 = r at *
    subst hq
    have e1 : (256 * q + r) / 256 = q := by omega
    have e2 : (256 * q + r) % 256 = r := by omega
    have e3 : (256 * q + r) / 4 = 256 * (q / 4) + (64 * (q % 4) + r / 4) := by omega
    rw [mapB, e1, e2, ← ih, rep, and_256 _ _ _ _ hr (by omega), e3, and_256 _ _ _ _ (by omega) (by omega)]
    have := b2_at ⟨q % 4, by omega⟩ ⟨r, hr⟩
    simp only at this
    rw [this]
    unfold b2
    omega

/-- Bytes whose halves are at most 4. -/
theorem stage3 (h : Nat → Nat) (hh : ∀ r, r < 256 → h r % 16 ≤ 4 ∧ h r < 69) : ∀ n x, (mapB h n x / 16 + mapB h n x) &&& rep 15 n = mapB (fun r => b3 (h r)) n x
  | 0, x => by simp [rep, mapB]
  | n + 1, x => by
    have ih := stage3 h hh n (x / 256)
    have hq4 : mapB h n (x / 256) % 16 ≤ 4 := by
      cases n with
      | zero => simp [mapB]
      | succ n => rw [mapB]; have := (hh (x / 256 % 256) (Nat.mod_lt _ (by omega))).1; omega
    have hr := hh (x % 256) (Nat.mod_lt _ (by omega))
    rw [mapB, mapB, ← ih, rep]
    generalize mapB h n (x / 256) = q at *
    generalize h (x % 256) = r at *
    have e3 : (256 * q + r) / 16 + (256 * q + r) = 256 * (q / 16 + q) + (16 * (q % 16) + (r / 16 + r)) := by omega
    rw [e3, and_256 _ _ _ _ (by omega) (by omega)]
    have := b3_at ⟨q % 16, by omega⟩ ⟨r, hr.2⟩
    simp only at this
    rw [this]
    rfl

def sw1 (x : Nat) : Nat := (x / 2 &&& 6148914691236517205) + (x &&& 6148914691236517205)
def sw2 (x : Nat) : Nat := (x / 4 &&& 3689348814741910323) + (x &&& 3689348814741910323)
def sw3 (x : Nat) : Nat := (x / 16 + x) &&& 1085102592571150095

theorem sw_all (x : Nat) : sw3 (sw2 (sw1 x)) = mapB (popAux 8) 8 x := by
  unfold sw1 sw2 sw3
  rw [show (6148914691236517205 : Nat) = rep 85 8 from rfl, show (3689348814741910323 : Nat) = rep 51 8 from rfl, show (1085102592571150095 : Nat) = rep 15 8 from rfl]
  rw [stage1, stage2, mapB_mapB (fun r hr => b1_lt ⟨r, hr⟩), stage3 (fun r => b2 (b1 r)) (fun r hr => b21_small ⟨r, hr⟩)]
  exact mapB_congr (fun r hr => b321 ⟨r, hr⟩) 8 x

theorem mapB_lt {f : Nat → Nat} (h : ∀ r, r < 256 → f r < 256) : ∀ n x, mapB f n x < 256 ^ n
  | 0, _ => by simp [mapB]
  | n + 1, x => by
    have a := mapB_lt h n (x / 256)
    have b := h (x % 256) (Nat.mod_lt _ (by omega))
    rw [mapB, Nat.pow_succ]
    omega

theorem sw1_lt (x : Nat) : sw1 x < 18446744073709551616 := by
  unfold sw1
  rw [show (6148914691236517205 : Nat) = rep 85 8 from rfl, stage1]
  exact mapB_lt (fun r hr => b1_lt ⟨r, hr⟩) 8 x

theorem sw2_lt (x : Nat) : sw2 (sw1 x) < 4919131752989213765 := by
  unfold sw1 sw2
  have h : ∀ r : Fin 256, b2 (b1 r.val) ≤ 68 := by decide +kernel
  rw [show (6148914691236517205 : Nat) = rep 85 8 from rfl, show (3689348814741910323 : Nat) = rep 51 8 from rfl, stage1, stage2, mapB_mapB (fun r hr => b1_lt ⟨r, hr⟩)]
  simp only [mapB]
  have a0 := h ⟨x % 256, Nat.mod_lt _ (by omega)⟩
  have a1 := h ⟨x / 256 % 256, Nat.mod_lt _ (by omega)⟩
  have a2 := h ⟨x / 256 / 256 % 256, Nat.mod_lt _ (by omega)⟩
  have a3 := h ⟨x / 256 / 256 / 256 % 256, Nat.mod_lt _ (by omega)⟩
  have a4 := h ⟨x / 256 / 256 / 256 / 256 % 256, Nat.mod_lt _ (by omega)⟩
  have a5 := h ⟨x / 256 / 256 / 256 / 256 / 256 % 256, Nat.mod_lt _ (by omega)⟩
  have a6 := h ⟨x / 256 / 256 / 256 / 256 / 256 / 256 % 256, Nat.mod_lt _ (by omega)⟩
  have a7 := h ⟨x / 256 / 256 / 256 / 256 / 256 / 256 / 256 % 256, Nat.mod_lt _ (by omega)⟩
  simp only at a0 a1 a2 a3 a4 a5 a6 a7
  omega

def sw4 (y : Nat) : Nat := y + y / 256
def sw5 (y : Nat) : Nat := y + y / 65536
def sw6 (y : Nat) : Nat := y + y / 4294967296

theorem sw3_lt (x : Nat) : sw3 x ≤ 1085102592571150095 := Nat.and_le_right

theorem div_of {a m q r : Nat} (h : a = m * q + r) (hr : r < m) : a / m = q := by
  subst h
  rw [Nat.mul_add_div (by omega), Nat.div_eq_of_lt hr, Nat.add_zero]
theorem swar4 (c0 c1 c2 c3 c4 c5 c6 c7 : Nat) (h0 : c0 ≤ 8) : sw4 ((c0) + 256 * (c1) + 65536 * (c2) + 16777216 * (c3) + 4294967296 * (c4) + 1099511627776 * (c5) + 281474976710656 * (c6) + 72057594037927936 * (c7)) = (c0 + c1) + 256 * (c1 + c2) + 65536 * (c2 + c3) + 16777216 * (c3 + c4) + 4294967296 * (c4 + c5) + 1099511627776 * (c5 + c6) + 281474976710656 * (c6 + c7) + 72057594037927936 * (c7) := by
  unfold sw4
  rw [div_of (q := (c1) + 256 * (c2) + 65536 * (c3) + 16777216 * (c4) + 4294967296 * (c5) + 1099511627776 * (c6) + 281474976710656 * (c7)) (r := c0) (by omega) (by omega)]
  omega
theorem swar5 (c0 c1 c2 c3 c4 c5 c6 c7 : Nat) (h0 : c0 ≤ 8) (h1 : c1 ≤ 8) (h2 : c2 ≤ 8) : sw5 ((c0 + c1) + 256 * (c1 + c2) + 65536 * (c2 + c3) + 16777216 * (c3 + c4) + 4294967296 * (c4 + c5) + 1099511627776 * (c5 + c6) + 281474976710656 * (c6 + c7) + 72057594037927936 * (c7)) = (c0 + c1 + c2 + c3) + 256 * (c1 + c2 + c3 + c4) + 65536 * (c2 + c3 + c4 + c5) + 16777216 * (c3 + c4 + c5 + c6) + 4294967296 * (c4 + c5 + c6 + c7) + 1099511627776 * (c5 + c6 + c7) + 281474976710656 * (c6 + c7) + 72057594037927936 * (c7) := by
  unfold sw5
  rw [div_of (q := (c2 + c3) + 256 * (c3 + c4) + 65536 * (c4 + c5) + 16777216 * (c5 + c6) + 4294967296 * (c6 + c7) + 1099511627776 * (c7)) (r := (c0 + c1) + 256 * (c1 + c2)) (by omega) (by omega)]
  omega
theorem swar6 (c0 c1 c2 c3 c4 c5 c6 c7 : Nat) (h0 : c0 ≤ 8) (h1 : c1 ≤ 8) (h2 : c2 ≤ 8) (h3 : c3 ≤ 8) (h4 : c4 ≤ 8) (h5 : c5 ≤ 8) (h6 : c6 ≤ 8) : sw6 ((c0 + c1 + c2 + c3) + 256 * (c1 + c2 + c3 + c4) + 65536 * (c2 + c3 + c4 + c5) + 16777216 * (c3 + c4 + c5 + c6) + 4294967296 * (c4 + c5 + c6 + c7) + 1099511627776 * (c5 + c6 + c7) + 281474976710656 * (c6 + c7) + 72057594037927936 * (c7)) = 128 * (2 * ((c1 + c2 + c3 + c4 + c5 + c6 + c7) + 256 * (c2 + c3 + c4 + c5 + c6 + c7) + 65536 * (c3 + c4 + c5 + c6 + c7) + 16777216 * (c4 + c5 + c6 + c7) + 4294967296 * (c5 + c6 + c7) + 1099511627776 * (c6 + c7) + 281474976710656 * (c7))) + (c0 + c1 + c2 + c3 + c4 + c5 + c6 + c7) := by
  unfold sw6
  rw [div_of (q := (c4 + c5 + c6 + c7) + 256 * (c5 + c6 + c7) + 65536 * (c6 + c7) + 16777216 * (c7)) (r := (c0 + c1 + c2 + c3) + 256 * (c1 + c2 + c3 + c4) + 65536 * (c2 + c3 + c4 + c5) + 16777216 * (c3 + c4 + c5 + c6)) (by omega) (by omega)]
  omega
theorem swar_sum (c0 c1 c2 c3 c4 c5 c6 c7 : Nat) (h0 : c0 ≤ 8) (h1 : c1 ≤ 8) (h2 : c2 ≤ 8) (h3 : c3 ≤ 8) (h4 : c4 ≤ 8) (h5 : c5 ≤ 8) (h6 : c6 ≤ 8) (h7 : c7 ≤ 8) : sw6 (sw5 (sw4 (256 * (256 * (256 * (256 * (256 * (256 * (256 * (256 * 0 + c7) + c6) + c5) + c4) + c3) + c2) + c1) + c0))) % 128 = c0 + c1 + c2 + c3 + c4 + c5 + c6 + c7 := by
  rw [show 256 * (256 * (256 * (256 * (256 * (256 * (256 * (256 * 0 + c7) + c6) + c5) + c4) + c3) + c2) + c1) + c0 = (c0) + 256 * (c1) + 65536 * (c2) + 16777216 * (c3) + 4294967296 * (c4) + 1099511627776 * (c5) + 281474976710656 * (c6) + 72057594037927936 * (c7) from by omega, swar4 c0 c1 c2 c3 c4 c5 c6 c7 h0, swar5 c0 c1 c2 c3 c4 c5 c6 c7 h0 h1 h2, swar6 c0 c1 c2 c3 c4 c5 c6 c7 h0 h1 h2 h3 h4 h5 h6, Nat.mul_add_mod, Nat.mod_eq_of_lt (by omega)]

theorem swar (x : Nat) (hx : x < 2 ^ 64) : sw6 (sw5 (sw4 (sw3 (sw2 (sw1 x))))) % 128 = popN x := by
  rw [sw_all]
  have e : popN x = popAux 8 (x % 256) + (popAux 8 (x / 256 % 256) + (popAux 8 (x / 256 / 256 % 256) + (popAux 8 (x / 256 / 256 / 256 % 256) + (popAux 8 (x / 256 / 256 / 256 / 256 % 256) + (popAux 8 (x / 256 / 256 / 256 / 256 / 256 % 256) + (popAux 8 (x / 256 / 256 / 256 / 256 / 256 / 256 % 256) + popAux 8 (x / 256 / 256 / 256 / 256 / 256 / 256 / 256 % 256))))))) := by
    have s : ∀ f y, popAux (8 + f) y = popAux 8 (y % 256) + popAux f (y / 256) := fun f y => popAux_split 8 f y
    unfold popN
    rw [show 64 = 8 + 56 from rfl, s, show 56 = 8 + 48 from rfl, s, show 48 = 8 + 40 from rfl, s, show 40 = 8 + 32 from rfl, s, show 32 = 8 + 24 from rfl, s, show 24 = 8 + 16 from rfl, s, show 16 = 8 + 8 from rfl, s]
    congr 8
    omega
  rw [e]
  simp only [mapB]
  have h := fun r hr => pop8_le ⟨r, hr⟩
  simp only at h
  have a0 := h (x % 256) (Nat.mod_lt _ (by omega))
  have a1 := h (x / 256 % 256) (Nat.mod_lt _ (by omega))
  have a2 := h (x / 256 / 256 % 256) (Nat.mod_lt _ (by omega))
  have a3 := h (x / 256 / 256 / 256 % 256) (Nat.mod_lt _ (by omega))
  have a4 := h (x / 256 / 256 / 256 / 256 % 256) (Nat.mod_lt _ (by omega))
  have a5 := h (x / 256 / 256 / 256 / 256 / 256 % 256) (Nat.mod_lt _ (by omega))
  have a6 := h (x / 256 / 256 / 256 / 256 / 256 / 256 % 256) (Nat.mod_lt _ (by omega))
  have a7 := h (x / 256 / 256 / 256 / 256 / 256 / 256 / 256 % 256) (Nat.mod_lt _ (by omega))
  clear h e hx
  generalize popAux 8 (x % 256) = c0 at *
  generalize popAux 8 (x / 256 % 256) = c1 at *
  generalize popAux 8 (x / 256 / 256 % 256) = c2 at *
  generalize popAux 8 (x / 256 / 256 / 256 % 256) = c3 at *
  generalize popAux 8 (x / 256 / 256 / 256 / 256 % 256) = c4 at *
  generalize popAux 8 (x / 256 / 256 / 256 / 256 / 256 % 256) = c5 at *
  generalize popAux 8 (x / 256 / 256 / 256 / 256 / 256 / 256 % 256) = c6 at *
  generalize popAux 8 (x / 256 / 256 / 256 / 256 / 256 / 256 / 256 % 256) = c7 at *
  rw [swar_sum c0 c1 c2 c3 c4 c5 c6 c7 a0 a1 a2 a3 a4 a5 a6 a7]
  omega

theorem popN_64 : ∀ x : Fin 64, popN x.val ≤ 6 := by decide +kernel
end Go.Proofs.YtgagfaajilbmmaaDoor

namespace Go.Proofs.YtgagfaajilbmmaaDoor
open Go.RowKit

/-- All of so many guests. -/
def full (g : Int) : Int := 2 ^ g.toNat - 1
/-- What is in a and not in b. -/
def dropI (a b : Int) : Int := orI a b - b
/-- What is in both. -/
def meetI (a b : Int) : Int := a + b - orI a b
/-- How many are in a set. -/
def sz (s : Int) : Int := (popN s.toNat : Int)

theorem pow_range6 : ∀ n : Nat, n ≤ 6 → (1 : Int) ≤ 2 ^ n ∧ (2 : Int) ^ n ≤ 64 := by
  intro n hn
  match n, hn with
  | 0, _ => decide
  | 1, _ => decide
  | 2, _ => decide
  | 3, _ => decide
  | 4, _ => decide
  | 5, _ => decide
  | 6, _ => decide

theorem wrap_pow6 (n : Nat) (hn : n ≤ 6) : wrap64 (2 ^ n) = 2 ^ n := IntWalk.wrap64_in _ (by have := pow_range6 n hn; omega)

theorem full_range {g : Int} (h0 : 0 ≤ g) (h1 : g ≤ 6) : 0 ≤ full g ∧ full g < 64 := by
  have := pow_range6 g.toNat (by omega)
  unfold full
  omega

theorem andNot_all : ∀ x y : Fin 64, bits .andNot .i64 (x.val : Int) (y.val : Int) = dropI x.val y.val := by decide +kernel
theorem andNot_all' {x y : Int} (h0 : 0 ≤ x) (h1 : x < 64) (k0 : 0 ≤ y) (k1 : y < 64) : bits .andNot .i64 x y = dropI x y := by
  have := andNot_all ⟨x.toNat, by omega⟩ ⟨y.toNat, by omega⟩
  simpa [Int.toNat_of_nonneg h0, Int.toNat_of_nonneg k0] using this

theorem and_all : ∀ x y : Fin 64, bits .and .i64 (x.val : Int) (y.val : Int) = meetI x.val y.val := by decide +kernel
theorem and_all' {x y : Int} (h0 : 0 ≤ x) (h1 : x < 64) (k0 : 0 ≤ y) (k1 : y < 64) : bits .and .i64 x y = meetI x y := by
  have := and_all ⟨x.toNat, by omega⟩ ⟨y.toNat, by omega⟩
  simpa [Int.toNat_of_nonneg h0, Int.toNat_of_nonneg k0] using this

theorem drop_all : ∀ x y : Fin 64, 0 ≤ dropI x.val y.val ∧ dropI x.val y.val ≤ x.val ∧ 0 ≤ meetI x.val y.val ∧ meetI x.val y.val ≤ x.val ∧ sz (dropI x.val y.val) = sz x.val - sz (meetI x.val y.val) := by decide +kernel
theorem drop_range {x y : Int} (h0 : 0 ≤ x) (h1 : x < 64) (k0 : 0 ≤ y) (k1 : y < 64) : 0 ≤ dropI x y ∧ dropI x y ≤ x := by
  have := drop_all ⟨x.toNat, by omega⟩ ⟨y.toNat, by omega⟩
  simp only [Int.toNat_of_nonneg h0, Int.toNat_of_nonneg k0] at this
  exact ⟨this.1, this.2.1⟩
theorem meet_range {x y : Int} (h0 : 0 ≤ x) (h1 : x < 64) (k0 : 0 ≤ y) (k1 : y < 64) : 0 ≤ meetI x y ∧ meetI x y ≤ x := by
  have := drop_all ⟨x.toNat, by omega⟩ ⟨y.toNat, by omega⟩
  simp only [Int.toNat_of_nonneg h0, Int.toNat_of_nonneg k0] at this
  exact ⟨this.2.2.1, this.2.2.2.1⟩
theorem sz_drop {x y : Int} (h0 : 0 ≤ x) (h1 : x < 64) (k0 : 0 ≤ y) (k1 : y < 64) : sz (dropI x y) = sz x - sz (meetI x y) := by
  have := drop_all ⟨x.toNat, by omega⟩ ⟨y.toNat, by omega⟩
  simp only [Int.toNat_of_nonneg h0, Int.toNat_of_nonneg k0] at this
  exact this.2.2.2.2

theorem sz_range {x : Int} (h0 : 0 ≤ x) (h1 : x < 64) : 0 ≤ sz x ∧ sz x ≤ 6 := by
  have := popN_64 ⟨x.toNat, by omega⟩
  unfold sz
  simp only at this
  omega

theorem popAux_lt : ∀ (f x : Nat), Go.Lib.popAux f x ≤ f
  | 0, _ => Nat.le_refl _
  | f + 1, x => by
    have := popAux_lt f (x / 2)
    have h2 : x % 2 < 2 := Nat.mod_lt _ (by omega)
    rw [Go.Lib.popAux]
    omega

theorem sz_bound (x : Int) : 0 ≤ sz x ∧ sz x ≤ 64 := by
  have := popAux_lt 64 x.toNat
  unfold sz popN
  omega

theorem hasB_orI {a b : Int} (k : Nat) (ha : 0 ≤ a) (hb : 0 ≤ b) : hasB (orI a b) k = (hasB a k || hasB b k) := by
  have h : (0 : Int) ≤ orI a b := by unfold orI; omega
  rw [hasB_iff k h, hasB_iff k ha, hasB_iff k hb]
  unfold orI
  rw [Int.toNat_natCast, Nat.testBit_or]

theorem hasB_drop_all : ∀ (x y : Fin 64) (k : Fin 6), hasB (dropI x.val y.val) k.val = (hasB x.val k.val && !hasB y.val k.val) := by decide +kernel
theorem hasB_drop {x y : Int} (h0 : 0 ≤ x) (h1 : x < 64) (k0 : 0 ≤ y) (k1 : y < 64) (k : Nat) (hk : k < 6) : hasB (dropI x y) k = (hasB x k && !hasB y k) := by
  have := hasB_drop_all ⟨x.toNat, by omega⟩ ⟨y.toNat, by omega⟩ ⟨k, hk⟩
  simpa only [Int.toNat_of_nonneg h0, Int.toNat_of_nonneg k0] using this

theorem meet_zero_all : ∀ (x y : Fin 64), (meetI x.val y.val == 0) = decide (∀ k : Fin 6, (hasB x.val k.val && hasB y.val k.val) = false) := by decide +kernel
theorem meet_zero {x y : Int} (h0 : 0 ≤ x) (h1 : x < 64) (k0 : 0 ≤ y) (k1 : y < 64) : (meetI x y == 0) = true ↔ ∀ k : Nat, k < 6 → ¬ (hasB x k = true ∧ hasB y k = true) := by
  have h := meet_zero_all ⟨x.toNat, by omega⟩ ⟨y.toNat, by omega⟩
  simp only [Int.toNat_of_nonneg h0, Int.toNat_of_nonneg k0] at h
  rw [h, decide_eq_true_iff]
  constructor
  · intro hh k hk ⟨a, b⟩
    have := hh ⟨k, hk⟩
    simp only [a, b] at this
    exact absurd this (by decide)
  · intro hh k
    have := hh k.val k.isLt
    cases h1 : hasB x k.val <;> cases h2 : hasB y k.val <;> simp_all

theorem hasB_pow_all : ∀ (i : Fin 6) (k : Fin 6), hasB ((2 : Int) ^ i.val) k.val = (i.val == k.val) := by decide +kernel
theorem hasB_pow {i k : Nat} (hi : i < 6) (hk : k < 6) : hasB ((2 : Int) ^ i) k = (i == k) := hasB_pow_all ⟨i, hi⟩ ⟨k, hk⟩

theorem full_hasB_all : ∀ (g : Fin 7) (x : Fin 64), (x.val : Int) ≤ full g.val → ∀ k : Fin 6, hasB x.val k.val = true → k.val < g.val := by decide +kernel
theorem full_hasB {g x : Int} (g0 : 0 ≤ g) (g1 : g ≤ 6) (h0 : 0 ≤ x) (h1 : x ≤ full g) {k : Nat} (hk : k < 6) (h : hasB x k = true) : (k : Int) < g := by
  have hf := full_range g0 g1
  have := full_hasB_all ⟨g.toNat, by omega⟩ ⟨x.toNat, by omega⟩ (by simp only [Int.toNat_of_nonneg h0, Int.toNat_of_nonneg g0]; exact h1) ⟨k, hk⟩ (by simpa only [Int.toNat_of_nonneg h0] using h)
  simp only at this
  omega
end Go.Proofs.YtgagfaajilbmmaaDoor

namespace Go.Proofs.YtgagfaajilbmmaaDoor
open Go.RowKit

theorem sz_step {x : Int} (h0 : 0 ≤ x) (h1 : x ≤ 9223372036854775807) : sz x = x % 2 + sz (x / 2) := by
  obtain ⟨n, rfl⟩ := Int.eq_ofNat_of_zero_le h0
  have := popN_step n (by omega)
  unfold sz
  rw [show ((n : Int) / 2).toNat = n / 2 from by omega, Int.toNat_natCast, this]
  omega

theorem wraps_u64 (n : Int) (h0 : 0 ≤ n) (h1 : n < 2 ^ 64) : IntKind.u64.wrap n = n := by rw [IntKind.wrap_u64]; omega
theorem and64 (a b : Nat) (ha : a < 18446744073709551616) (hb : b < 18446744073709551616) : bits .and .u64 (a : Int) (b : Int) = ((a &&& b : Nat) : Int) :=
  (bits_nat .u64 64 (by decide) wraps_u64 a b ha hb).1
theorem pc1 (n : Nat) (hn : n < 18446744073709551616) : IntKind.u64.wrap (bits .and .u64 ((n : Int) / 2) 6148914691236517205 + bits .and .u64 (n : Int) 6148914691236517205) = ((sw1 n : Nat) : Int) := by
  have a := and64 (n / 2) 6148914691236517205 (by omega) (by omega)
  have b := and64 n 6148914691236517205 hn (by omega)
  have l := sw1_lt n
  rw [show (n : Int) / 2 = ((n / 2 : Nat) : Int) from by omega, show (6148914691236517205 : Int) = ((6148914691236517205 : Nat) : Int) from rfl, a, b]
  unfold sw1 at l ⊢
  rw [wraps_u64 _ (by omega) (by omega)]
  omega
theorem pc2 (n : Nat) : IntKind.u64.wrap (bits .and .u64 (((sw1 n : Nat) : Int) / 4) 3689348814741910323 + bits .and .u64 ((sw1 n : Nat) : Int) 3689348814741910323) = ((sw2 (sw1 n) : Nat) : Int) := by
  have h1 := sw1_lt n
  have l := sw2_lt n
  generalize sw1 n = m at *
  have a := and64 (m / 4) 3689348814741910323 (by omega) (by omega)
  have b := and64 m 3689348814741910323 h1 (by omega)
  rw [show (m : Int) / 4 = ((m / 4 : Nat) : Int) from by omega, show (3689348814741910323 : Int) = ((3689348814741910323 : Nat) : Int) from rfl, a, b]
  unfold sw2 at l ⊢
  rw [wraps_u64 _ (by omega) (by omega)]
  omega
theorem pc3 (n : Nat) : bits .and .u64 (IntKind.u64.wrap (((sw2 (sw1 n) : Nat) : Int) / 16 + ((sw2 (sw1 n) : Nat) : Int))) 1085102592571150095 = ((sw3 (sw2 (sw1 n)) : Nat) : Int) := by
  have l := sw2_lt n
  generalize sw2 (sw1 n) = m at *
  have a := and64 (m / 16 + m) 1085102592571150095 (by omega) (by omega)
  rw [show (m : Int) / 16 + (m : Int) = ((m / 16 + m : Nat) : Int) from by omega, wraps_u64 _ (by omega) (by omega), show (1085102592571150095 : Int) = ((1085102592571150095 : Nat) : Int) from rfl, a]
  rfl
theorem pc4 (m : Nat) (h : m ≤ 1085102592571150095) : IntKind.u64.wrap ((m : Int) + (m : Int) / 256) = ((sw4 m : Nat) : Int) ∧ sw4 m ≤ 1100000000000000000 := by
  unfold sw4
  rw [wraps_u64 _ (by omega) (by omega)]
  omega
theorem pc5 (m : Nat) (h : m ≤ 1100000000000000000) : IntKind.u64.wrap ((m : Int) + (m : Int) / 65536) = ((sw5 m : Nat) : Int) ∧ sw5 m ≤ 1200000000000000000 := by
  unfold sw5
  rw [wraps_u64 _ (by omega) (by omega)]
  omega
theorem pc6 (m : Nat) (h : m ≤ 1200000000000000000) : IntKind.u64.wrap ((m : Int) + (m : Int) / 4294967296) = ((sw6 m : Nat) : Int) ∧ sw6 m ≤ 1300000000000000000 := by
  unfold sw6
  rw [wraps_u64 _ (by omega) (by omega)]
  omega
theorem pc7 (m : Nat) (h : m ≤ 1300000000000000000) : bits .and .i64 (m : Int) 127 = ((m % 128 : Nat) : Int) := by
  have := bits_mask .i64 63 (by decide) (fun n h0 h1 => by rw [IntKind.wrap_i64]; omega) 7 (by decide) (m : Int) (by omega) (by omega)
  rw [show (127 : Int) = 2 ^ 7 - 1 from by decide, this]
  omega

set_option maxHeartbeats 800000 in
theorem onesCount64_any (n : Nat) (w : World) (hn : n < 18446744073709551616) :
    Calls Tryd.prog 114 #[.int .u64 (n : Int)] w fun e w' => e = .returned (.int .i64 (popN n : Nat)) ∧ w = w' := by
  have HS := hide (swar n hn)
  have e1 := pc1 n hn
  have e2 := pc2 n
  have e3 := pc3 n
  have l3 := sw3_lt (sw2 (sw1 n))
  generalize sw1 n = x1 at *
  generalize sw2 x1 = x2 at *
  generalize sw3 x2 = x3 at *
  obtain ⟨e4, l4⟩ := pc4 x3 l3
  generalize sw4 x3 = x4 at *
  obtain ⟨e5, l5⟩ := pc5 x4 l4
  generalize sw5 x4 = x5 at *
  obtain ⟨e6, l6⟩ := pc6 x5 l5
  generalize sw6 x5 = x6 at *
  have H7 := hide (pc7 x6 l6)
  clear l3 l4 l5
  go_enter Tryd.func114, Tryd.ntmps114
  go_wp2_with fail
  go_ret
  exact ⟨by rw [← HS.out, ← H7.out]; rfl, rfl⟩

set_option maxHeartbeats 400000 in
theorem onesCount_any (n : Nat) (w : World) (hn : n < 18446744073709551616) :
    Calls Tryd.prog 87 #[.int .u64 (n : Int)] w fun e w' => e = .returned (.int .i64 (popN n : Nat)) ∧ w = w' := by
  go_enter Tryd.func87, Tryd.ntmps87
  go_wp2_with fail
  refine (onesCount64_any _ _ hn).mono ?_
  rintro e w' ⟨rfl, rfl⟩
  go_wp2_with fail
  go_ret
  exact ⟨rfl, rfl⟩

end Go.Proofs.YtgagfaajilbmmaaDoor
