/- PopMath: how many bits a number below 2^64 has: the sum of its bits is what the masks of math/bits compute.
   Conditions: the number is below 2^64.
   GuestMath: sets of guests as numbers below 64: without, in common, how many; plain mathematics.
   Conditions: sets are below 64.
   GuestMath2: guests who are apart: pairs of a list, and sets against those who share a dish; plain mathematics.
   Conditions: sets are below 64.
   Lists of indices, each once: mathematics, and contracts of the helper that looks a number up.
   Conditions: lists have at most 1048576 elements.
   GuestMath3: the dish for the most guests, quarrels and seats; plain mathematics.
   Conditions: sets are below 64.
   GuestMath4: the most guests apart, those who all quarrel, the fewest tables; plain mathematics.
   Conditions: sets are below 64.
   GuestMath5: who sits at a table, as sets; plain mathematics.
   Conditions: sets are below 64. -/
import Derived.Lib.BitFns
import Derived.Test.YthbainbgimbjeaaDoorUses
import Derived.Test.YthbainbgimbjeaaDoorTaskOk
import Derived.Test.YthbainbgimbjeaaDoorTab
import Derived.Test.YthbainbgimbjeaaDoorZ1
namespace Go.Proofs.YthbainbgimbjeaaDoor
open Go.Lib

/-- How many bits x has. -/
def popN (x : Nat) : Nat := popAux 64 x

theorem popAux_more : ∀ (f x : Nat), x < 2 ^ f → popAux (f + 1) x = popAux f x
  | 0, x, h => by
    have : x = 0 := by simpa using h
    subst this
    rfl
  | f + 1, x, h => by
    rw [popAux, popAux_more f (x / 2) (by rw [Nat.pow_succ] at h; omega), ← popAux]

theorem popN_step (x : Nat) (h : x < 2 ^ 64) : popN x = x % 2 + popN (x / 2) := by
  unfold popN
  rw [popAux_more 63 (x / 2) (by omega)]
  rfl

theorem popN_zero : popN 0 = 0 := by decide +kernel

theorem popAux_split : ∀ (k f x : Nat), popAux (k + f) x = popAux k (x % 2 ^ k) + popAux f (x / 2 ^ k)
  | 0, f, x => by simp [popAux]
  | k + 1, f, x => by
    have e : k + 1 + f = (k + f) + 1 := by omega
    have e1 : x % 2 ^ (k + 1) = x % 2 + 2 * (x / 2 % 2 ^ k) := by rw [Nat.pow_succ', Nat.mod_mul]
    have e2 : x / 2 ^ (k + 1) = x / 2 / 2 ^ k := by rw [Nat.pow_succ', Nat.div_div_eq_div_mul]
    rw [e, popAux, popAux_split k f (x / 2), e1, e2, popAux]
    have e3 : (x % 2 + 2 * (x / 2 % 2 ^ k)) % 2 = x % 2 := by omega
    have e4 : (x % 2 + 2 * (x / 2 % 2 ^ k)) / 2 = x / 2 % 2 ^ k := by omega
    rw [e3, e4]
    omega

theorem and_256 (q r m k : Nat) (hr : r < 256) (hk : k < 256) : (256 * q + r) &&& (256 * m + k) = 256 * (q &&& m) + (r &&& k) := by
  have hd := Nat.and_div_two_pow (n := 8) (a := 256 * q + r) (b := 256 * m + k)
  have hm := Nat.and_mod_two_pow (n := 8) (a := 256 * q + r) (b := 256 * m + k)
  have e1 : (256 * q + r) / 2 ^ 8 = q := by omega
  have e2 : (256 * m + k) / 2 ^ 8 = m := by omega
  have e3 : (256 * q + r) % 2 ^ 8 = r := by omega
  have e4 : (256 * m + k) % 2 ^ 8 = k := by omega
  rw [e1, e2] at hd
  rw [e3, e4] at hm
  omega

/-- The byte c, n times. -/
def rep (c : Nat) : Nat → Nat
  | 0 => 0
  | n + 1 => 256 * rep c n + c

/-- f at each of n bytes. -/
def mapB (f : Nat → Nat) : Nat → Nat → Nat
  | 0, _ => 0
  | n + 1, x => 256 * mapB f n (x / 256) + f (x % 256)

theorem mapB_congr {f g : Nat → Nat} (h : ∀ r, r < 256 → f r = g r) : ∀ n x, mapB f n x = mapB g n x
  | 0, _ => rfl
  | n + 1, x => by rw [mapB, mapB, mapB_congr h n, h _ (Nat.mod_lt _ (by omega))]

theorem mapB_mapB {f g : Nat → Nat} (h : ∀ r, r < 256 → g r < 256) : ∀ n x, mapB f n (mapB g n x) = mapB (fun r => f (g r)) n x
  | 0, _ => rfl
  | n + 1, x => by
    have hr := h (x % 256) (Nat.mod_lt _ (by omega))
    have e1 : (256 * mapB g n (x / 256) + g (x % 256)) / 256 = mapB g n (x / 256) := by omega
    have e2 : (256 * mapB g n (x / 256) + g (x % 256)) % 256 = g (x % 256) := by omega
    rw [mapB, mapB, e1, e2, mapB_mapB h n, mapB]

def b1 (r : Nat) : Nat := (r / 2 &&& 85) + (r &&& 85)
def b2 (r : Nat) : Nat := (r / 4 &&& 51) + (r &&& 51)
def b3 (r : Nat) : Nat := (r / 16 + r) &&& 15

theorem b1_at : ∀ (t : Fin 2) (r : Fin 256), ((128 * t.val + r.val / 2) &&& 85) = (r.val / 2 &&& 85) := by decide +kernel
theorem b2_at : ∀ (t : Fin 4) (r : Fin 256), ((64 * t.val + r.val / 4) &&& 51) = (r.val / 4 &&& 51) := by decide +kernel
theorem b3_at : ∀ (t : Fin 5) (r : Fin 69), ((16 * t.val + (r.val / 16 + r.val)) &&& 15) = ((r.val / 16 + r.val) &&& 15) := by decide +kernel
theorem b1_lt : ∀ r : Fin 256, b1 r.val < 256 := by decide +kernel
theorem b21_small : ∀ r : Fin 256, b2 (b1 r.val) % 16 ≤ 4 ∧ b2 (b1 r.val) < 69 := by decide +kernel
theorem b321 : ∀ r : Fin 256, b3 (b2 (b1 r.val)) = popAux 8 r.val := by decide +kernel
theorem pop8_le : ∀ r : Fin 256, popAux 8 r.val ≤ 8 := by decide +kernel

theorem stage1 : ∀ n x, (x / 2 &&& rep 85 n) + (x &&& rep 85 n) = mapB b1 n x
  | 0, x => by simp [rep, mapB]
  | n + 1, x => by
    have ih := stage1 n (x / 256)
    have hq : x = 256 * (x / 256) + x % 256 := by omega
    generalize x / 256 = q at *
    have hr : x % 256 < 256 := Nat.mod_lt _ (by omega)
    generalize x % 256 = r at *
    subst hq
    have e1 : (256 * q + r) / 256 = q := by omega
    have e2 : (256 * q + r) % 256 = r := by omega
    have e3 : (256 * q + r) / 2 = 256 * (q / 2) + (128 * (q % 2) + r / 2) := by omega
    rw [mapB, e1, e2, ← ih, rep, and_256 _ _ _ _ hr (by omega), e3, and_256 _ _ _ _ (by omega) (by omega)]
    have := b1_at ⟨q % 2, by omega⟩ ⟨r, hr⟩
    simp only at this
    rw [this]
    unfold b1
    omega

theorem stage2 : ∀ n x, (x / 4 &&& rep 51 n) + (x &&& rep 51 n) = mapB b2 n x
  | 0, x => by simp [rep, mapB]
  | n + 1, x => by
    have ih := stage2 n (x / 256)
    have hq : x = 256 * (x / 256) + x % 256 := by omega
    generalize x / 256 = q at *
    have hr : x % 256 < 256 := Nat.mod_lt _ (by omega)
    generalize x % 256 = r at *
    subst hq
    have e1 : (256 * q + r) / 256 = q := by omega
    have e2 : (256 * q + r) % 256 = r := by omega
    have e3 : (256 * q + r) / 4 = 256 * (q / 4) + (64 * (q % 4) + r / 4) := by omega
    rw [mapB, e1, e2, ← ih, rep, and_256 _ _ _ _ hr (by omega), e3, and_256 _ _ _ _ (by omega) (by omega)]
    have := b2_at ⟨q % 4, by omega⟩ ⟨r, hr⟩
    simp only at this
    rw [this]
    unfold b2
    omega

/-- Bytes whose halves are at most 4. -/
theorem stage3 (h : Nat → Nat) (hh : ∀ r, r < 256 → h r % 16 ≤ 4 ∧ h r < 69) : ∀ n x, (mapB h n x / 16 + mapB h n x) &&& rep 15 n = mapB (fun r => b3 (h r)) n x
  | 0, x => by simp [rep, mapB]
  | n + 1, x => by
    have ih := stage3 h hh n (x / 256)
    have hq4 : mapB h n (x / 256) % 16 ≤ 4 := by
      cases n with
      | zero => simp [mapB]
      | succ n => rw [mapB]; have := (hh (x / 256 % 256) (Nat.mod_lt _ (by omega))).1; omega
    have hr := hh (x % 256) (Nat.mod_lt _ (by omega))
    rw [mapB, mapB, ← ih, rep]
    generalize mapB h n (x / 256) = q at *
    generalize h (x % 256) = r at *
    have e3 : (256 * q + r) / 16 + (256 * q + r) = 256 * (q / 16 + q) + (16 * (q % 16) + (r / 16 + r)) := by omega
    rw [e3, and_256 _ _ _ _ (by omega) (by omega)]
    have := b3_at ⟨q % 16, by omega⟩ ⟨r, hr.2⟩
    simp only at this
    rw [this]
    rfl

def sw1 (x : Nat) : Nat := (x / 2 &&& 6148914691236517205) + (x &&& 6148914691236517205)
def sw2 (x : Nat) : Nat := (x / 4 &&& 3689348814741910323) + (x &&& 3689348814741910323)
def sw3 (x : Nat) : Nat := (x / 16 + x) &&& 1085102592571150095

theorem sw_all (x : Nat) : sw3 (sw2 (sw1 x)) = mapB (popAux 8) 8 x := by
  unfold sw1 sw2 sw3
  rw [show (6148914691236517205 : Nat) = rep 85 8 from rfl, show (3689348814741910323 : Nat) = rep 51 8 from rfl, show (1085102592571150095 : Nat) = rep 15 8 from rfl]
  rw [stage1, stage2, mapB_mapB (fun r hr => b1_lt ⟨r, hr⟩), stage3 (fun r => b2 (b1 r)) (fun r hr => b21_small ⟨r, hr⟩)]
  exact mapB_congr (fun r hr => b321 ⟨r, hr⟩) 8 x

theorem mapB_lt {f : Nat → Nat} (h : ∀ r, r < 256 → f r < 256) : ∀ n x, mapB f n x < 256 ^ n
  | 0, _ => by simp [mapB]
  | n + 1, x => by
    have a := mapB_lt h n (x / 256)
    have b := h (x % 256) (Nat.mod_lt _ (by omega))
    rw [mapB, Nat.pow_succ]
    omega

theorem sw1_lt (x : Nat) : sw1 x < 18446744073709551616 := by
  unfold sw1
  rw [show (6148914691236517205 : Nat) = rep 85 8 from rfl, stage1]
  exact mapB_lt (fun r hr => b1_lt ⟨r, hr⟩) 8 x

theorem sw2_lt (x : Nat) : sw2 (sw1 x) < 4919131752989213765 := by
  unfold sw1 sw2
  have h : ∀ r : Fin 256, b2 (b1 r.val) ≤ 68 := by decide +kernel
  rw [show (6148914691236517205 : Nat) = rep 85 8 from rfl, show (3689348814741910323 : Nat) = rep 51 8 from rfl, stage1, stage2, mapB_mapB (fun r hr => b1_lt ⟨r, hr⟩)]
  simp only [mapB]
  have a0 := h ⟨x % 256, Nat.mod_lt _ (by omega)⟩
  have a1 := h ⟨x / 256 % 256, Nat.mod_lt _ (by omega)⟩
  have a2 := h ⟨x / 256 / 256 % 256, Nat.mod_lt _ (by omega)⟩
  have a3 := h ⟨x / 256 / 256 / 256 % 256, Nat.mod_lt _ (by omega)⟩
  have a4 := h ⟨x / 256 / 256 / 256 / 256 % 256, Nat.mod_lt _ (by omega)⟩
  have a5 := h ⟨x / 256 / 256 / 256 / 256 / 256 % 256, Nat.mod_lt _ (by omega)⟩
  have a6 := h ⟨x / 256 / 256 / 256 / 256 / 256 / 256 % 256, Nat.mod_lt _ (by omega)⟩
  have a7 := h ⟨x / 256 / 256 / 256 / 256 / 256 / 256 / 256 % 256, Nat.mod_lt _ (by omega)⟩
  simp only at a0 a1 a2 a3 a4 a5 a6 a7
  omega

def sw4 (y : Nat) : Nat := y + y / 256
def sw5 (y : Nat) : Nat := y + y / 65536
def sw6 (y : Nat) : Nat := y + y / 4294967296

theorem sw3_lt (x : Nat) : sw3 x ≤ 1085102592571150095 := Nat.and_le_right

theorem div_of {a m q r : Nat} (h : a = m * q + r) (hr : r < m) : a / m = q := by
  subst h
  rw [Nat.mul_add_div (by omega), Nat.div_eq_of_lt hr, Nat.add_zero]
theorem swar4 (c0 c1 c2 c3 c4 c5 c6 c7 : Nat) (h0 : c0 ≤ 8) : sw4 ((c0) + 256 * (c1) + 65536 * (c2) + 16777216 * (c3) + 4294967296 * (c4) + 1099511627776 * (c5) + 281474976710656 * (c6) + 72057594037927936 * (c7)) = (c0 + c1) + 256 * (c1 + c2) + 65536 * (c2 + c3) + 16777216 * (c3 + c4) + 4294967296 * (c4 + c5) + 1099511627776 * (c5 + c6) + 281474976710656 * (c6 + c7) + 72057594037927936 * (c7) := by
  unfold sw4
  rw [div_of (q := (c1) + 256 * (c2) + 65536 * (c3) + 16777216 * (c4) + 4294967296 * (c5) + 1099511627776 * (c6) + 281474976710656 * (c7)) (r := c0) (by omega) (by omega)]
  omega
theorem swar5 (c0 c1 c2 c3 c4 c5 c6 c7 : Nat) (h0 : c0 ≤ 8) (h1 : c1 ≤ 8) (h2 : c2 ≤ 8) : sw5 ((c0 + c1) + 256 * (c1 + c2) + 65536 * (c2 + c3) + 16777216 * (c3 + c4) + 4294967296 * (c4 + c5) + 1099511627776 * (c5 + c6) + 281474976710656 * (c6 + c7) + 72057594037927936 * (c7)) = (c0 + c1 + c2 + c3) + 256 * (c1 + c2 + c3 + c4) + 65536 * (c2 + c3 + c4 + c5) + 16777216 * (c3 + c4 + c5 + c6) + 4294967296 * (c4 + c5 + c6 + c7) + 1099511627776 * (c5 + c6 + c7) + 281474976710656 * (c6 + c7) + 72057594037927936 * (c7) := by
  unfold sw5
  rw [div_of (q := (c2 + c3) + 256 * (c3 + c4) + 65536 * (c4 + c5) + 16777216 * (c5 + c6) + 4294967296 * (c6 + c7) + 1099511627776 * (c7)) (r := (c0 + c1) + 256 * (c1 + c2)) (by omega) (by omega)]
  omega
theorem swar6 (c0 c1 c2 c3 c4 c5 c6 c7 : Nat) (h0 : c0 ≤ 8) (h1 : c1 ≤ 8) (h2 : c2 ≤ 8) (h3 : c3 ≤ 8) (h4 : c4 ≤ 8) (h5 : c5 ≤ 8) (h6 : c6 ≤ 8) : sw6 ((c0 + c1 + c2 + c3) + 256 * (c1 + c2 + c3 + c4) + 65536 * (c2 + c3 + c4 + c5) + 16777216 * (c3 + c4 + c5 + c6) + 4294967296 * (c4 + c5 + c6 + c7) + 1099511627776 * (c5 + c6 + c7) + 281474976710656 * (c6 + c7) + 72057594037927936 * (c7)) = 128 * (2 * ((c1 + c2 + c3 + c4 + c5 + c6 + c7) + 256 * (c2 + c3 + c4 + c5 + c6 + c7) + 65536 * (c3 + c4 + c5 + c6 + c7) + 16777216 * (c4 + c5 + c6 + c7) + 4294967296 * (c5 + c6 + c7) + 1099511627776 * (c6 + c7) + 281474976710656 * (c7))) + (c0 + c1 + c2 + c3 + c4 + c5 + c6 + c7) := by
  unfold sw6
  rw [div_of (q := (c4 + c5 + c6 + c7) + 256 * (c5 + c6 + c7) + 65536 * (c6 + c7) + 16777216 * (c7)) (r := (c0 + c1 + c2 + c3) + 256 * (c1 + c2 + c3 + c4) + 65536 * (c2 + c3 + c4 + c5) + 16777216 * (c3 + c4 + c5 + c6)) (by omega) (by omega)]
  omega
theorem swar_sum (c0 c1 c2 c3 c4 c5 c6 c7 : Nat) (h0 : c0 ≤ 8) (h1 : c1 ≤ 8) (h2 : c2 ≤ 8) (h3 : c3 ≤ 8) (h4 : c4 ≤ 8) (h5 : c5 ≤ 8) (h6 : c6 ≤ 8) (h7 : c7 ≤ 8) : sw6 (sw5 (sw4 (256 * (256 * (256 * (256 * (256 * (256 * (256 * (256 * 0 + c7) + c6) + c5) + c4) + c3) + c2) + c1) + c0))) % 128 = c0 + c1 + c2 + c3 + c4 + c5 + c6 + c7 := by
  rw [show 256 * (256 * (256 * (256 * (256 * (256 * (256 * (256 * 0 + c7) + c6) + c5) + c4) + c3) + c2) + c1) + c0 = (c0) + 256 * (c1) + 65536 * (c2) + 16777216 * (c3) + 4294967296 * (c4) + 1099511627776 * (c5) + 281474976710656 * (c6) + 72057594037927936 * (c7) from by omega, swar4 c0 c1 c2 c3 c4 c5 c6 c7 h0, swar5 c0 c1 c2 c3 c4 c5 c6 c7 h0 h1 h2, swar6 c0 c1 c2 c3 c4 c5 c6 c7 h0 h1 h2 h3 h4 h5 h6, Nat.mul_add_mod, Nat.mod_eq_of_lt (by omega)]

theorem swar (x : Nat) (hx : x < 2 ^ 64) : sw6 (sw5 (sw4 (sw3 (sw2 (sw1 x))))) % 128 = popN x := by
  rw [sw_all]
  have e : popN x = popAux 8 (x % 256) + (popAux 8 (x / 256 % 256) + (popAux 8 (x / 256 / 256 % 256) + (popAux 8 (x / 256 / 256 / 256 % 256) + (popAux 8 (x / 256 / 256 / 256 / 256 % 256) + (popAux 8 (x / 256 / 256 / 256 / 256 / 256 % 256) + (popAux 8 (x / 256 / 256 / 256 / 256 / 256 / 256 % 256) + popAux 8 (x / 256 / 256 / 256 / 256 / 256 / 256 / 256 % 256))))))) := by
    have s : ∀ f y, popAux (8 + f) y = popAux 8 (y % 256) + popAux f (y / 256) := fun f y => popAux_split 8 f y
    unfold popN
    rw [show 64 = 8 + 56 from rfl, s, show 56 = 8 + 48 from rfl, s, show 48 = 8 + 40 from rfl, s, show 40 = 8 + 32 from rfl, s, show 32 = 8 + 24 from rfl, s, show 24 = 8 + 16 from rfl, s, show 16 = 8 + 8 from rfl, s]
    congr 8
    omega
  rw [e]
  simp only [mapB]
  have h := fun r hr => pop8_le ⟨r, hr⟩
  simp only at h
  have a0 := h (x % 256) (Nat.mod_lt _ (by omega))
  have a1 := h (x / 256 % 256) (Nat.mod_lt _ (by omega))
  have a2 := h (x / 256 / 256 % 256) (Nat.mod_lt _ (by omega))
  have a3 := h (x / 256 / 256 / 256 % 256) (Nat.mod_lt _ (by omega))
  have a4 := h (x / 256 / 256 / 256 / 256 % 256) (Nat.mod_lt _ (by omega))
  have a5 := h (x / 256 / 256 / 256 / 256 / 256 % 256) (Nat.mod_lt _ (by omega))
  have a6 := h (x / 256 / 256 / 256 / 256 / 256 / 256 % 256) (Nat.mod_lt _ (by omega))
  have a7 := h (x / 256 / 256 / 256 / 256 / 256 / 256 / 256 % 256) (Nat.mod_lt _ (by omega))
  clear h e hx
  generalize popAux 8 (x % 256) = c0 at *
  generalize popAux 8 (x / 256 % 256) = c1 at *
  generalize popAux 8 (x / 256 / 256 % 256) = c2 at *
  generalize popAux 8 (x / 256 / 256 / 256 % 256) = c3 at *
  generalize popAux 8 (x / 256 / 256 / 256 / 256 % 256) = c4 at *
  generalize popAux 8 (x / 256 / 256 / 256 / 256 / 256 % 256) = c5 at *
  generalize popAux 8 (x / 256 / 256 / 256 / 256 / 256 / 256 % 256) = c6 at *
  generalize popAux 8 (x / 256 / 256 / 256 / 256 / 256 / 256 / 256 % 256) = c7 at *
  rw [swar_sum c0 c1 c2 c3 c4 c5 c6 c7 a0 a1 a2 a3 a4 a5 a6 a7]
  omega

theorem popN_64 : ∀ x : Fin 64, popN x.val ≤ 6 := by decide +kernel
end Go.Proofs.YthbainbgimbjeaaDoor

namespace Go.Proofs.YthbainbgimbjeaaDoor
open Go.RowKit

/-- All of so many guests. -/
def full (g : Int) : Int := 2 ^ g.toNat - 1
/-- What is in a and not in b. -/
def dropI (a b : Int) : Int := orI a b - b
/-- What is in both. -/
def meetI (a b : Int) : Int := a + b - orI a b
/-- How many are in a set. -/
def sz (s : Int) : Int := (popN s.toNat : Int)

theorem pow_range6 : ∀ n : Nat, n ≤ 6 → (1 : Int) ≤ 2 ^ n ∧ (2 : Int) ^ n ≤ 64 := by
  intro n hn
  match n, hn with
  | 0, _ => decide
  | 1, _ => decide
  | 2, _ => decide
  | 3, _ => decide
  | 4, _ => decide
  | 5, _ => decide
  | 6, _ => decide

theorem wrap_pow6 (n : Nat) (hn : n ≤ 6) : wrap64 (2 ^ n) = 2 ^ n := IntWalk.wrap64_in _ (by have := pow_range6 n hn; omega)

theorem full_range {g : Int} (h0 : 0 ≤ g) (h1 : g ≤ 6) : 0 ≤ full g ∧ full g < 64 := by
  have := pow_range6 g.toNat (by omega)
  unfold full
  omega

theorem andNot_all : ∀ x y : Fin 64, bits .andNot .i64 (x.val : Int) (y.val : Int) = dropI x.val y.val := by decide +kernel
theorem andNot_all' {x y : Int} (h0 : 0 ≤ x) (h1 : x < 64) (k0 : 0 ≤ y) (k1 : y < 64) : bits .andNot .i64 x y = dropI x y := by
  have := andNot_all ⟨x.toNat, by omega⟩ ⟨y.toNat, by omega⟩
  simpa [Int.toNat_of_nonneg h0, Int.toNat_of_nonneg k0] using this

theorem and_all : ∀ x y : Fin 64, bits .and .i64 (x.val : Int) (y.val : Int) = meetI x.val y.val := by decide +kernel
theorem and_all' {x y : Int} (h0 : 0 ≤ x) (h1 : x < 64) (k0 : 0 ≤ y) (k1 : y < 64) : bits .and .i64 x y = meetI x y := by
  have := and_all ⟨x.toNat, by omega⟩ ⟨y.toNat, by omega⟩
  simpa [Int.toNat_of_nonneg h0, Int.toNat_of_nonneg k0] using this

theorem drop_all : ∀ x y : Fin 64, 0 ≤ dropI x.val y.val ∧ dropI x.val y.val ≤ x.val ∧ 0 ≤ meetI x.val y.val ∧ meetI x.val y.val ≤ x.val ∧ sz (dropI x.val y.val) = sz x.val - sz (meetI x.val y.val) := by decide +kernel
theorem drop_range {x y : Int} (h0 : 0 ≤ x) (h1 : x < 64) (k0 : 0 ≤ y) (k1 : y < 64) : 0 ≤ dropI x y ∧ dropI x y ≤ x := by
  have := drop_all ⟨x.toNat, by omega⟩ ⟨y.toNat, by omega⟩
  simp only [Int.toNat_of_nonneg h0, Int.toNat_of_nonneg k0] at this
  exact ⟨this.1, this.2.1⟩
theorem meet_range {x y : Int} (h0 : 0 ≤ x) (h1 : x < 64) (k0 : 0 ≤ y) (k1 : y < 64) : 0 ≤ meetI x y ∧ meetI x y ≤ x := by
  have := drop_all ⟨x.toNat, by omega⟩ ⟨y.toNat, by omega⟩
  simp only [Int.toNat_of_nonneg h0, Int.toNat_of_nonneg k0] at this
  exact ⟨this.2.2.1, this.2.2.2.1⟩
theorem sz_drop {x y : Int} (h0 : 0 ≤ x) (h1 : x < 64) (k0 : 0 ≤ y) (k1 : y < 64) : sz (dropI x y) = sz x - sz (meetI x y) := by
  have := drop_all ⟨x.toNat, by omega⟩ ⟨y.toNat, by omega⟩
  simp only [Int.toNat_of_nonneg h0, Int.toNat_of_nonneg k0] at this
  exact this.2.2.2.2

theorem sz_range {x : Int} (h0 : 0 ≤ x) (h1 : x < 64) : 0 ≤ sz x ∧ sz x ≤ 6 := by
  have := popN_64 ⟨x.toNat, by omega⟩
  unfold sz
  simp only at this
  omega

theorem popAux_lt : ∀ (f x : Nat), Go.Lib.popAux f x ≤ f
  | 0, _ => Nat.le_refl _
  | f + 1, x => by
    have := popAux_lt f (x / 2)
    have h2 : x % 2 < 2 := Nat.mod_lt _ (by omega)
    rw [Go.Lib.popAux]
    omega

theorem sz_bound (x : Int) : 0 ≤ sz x ∧ sz x ≤ 64 := by
  have := popAux_lt 64 x.toNat
  unfold sz popN
  omega

theorem hasB_orI {a b : Int} (k : Nat) (ha : 0 ≤ a) (hb : 0 ≤ b) : hasB (orI a b) k = (hasB a k || hasB b k) := by
  have h : (0 : Int) ≤ orI a b := by unfold orI; omega
  rw [hasB_iff k h, hasB_iff k ha, hasB_iff k hb]
  unfold orI
  rw [Int.toNat_natCast, Nat.testBit_or]

theorem hasB_drop_all : ∀ (x y : Fin 64) (k : Fin 6), hasB (dropI x.val y.val) k.val = (hasB x.val k.val && !hasB y.val k.val) := by decide +kernel
theorem hasB_drop {x y : Int} (h0 : 0 ≤ x) (h1 : x < 64) (k0 : 0 ≤ y) (k1 : y < 64) (k : Nat) (hk : k < 6) : hasB (dropI x y) k = (hasB x k && !hasB y k) := by
  have := hasB_drop_all ⟨x.toNat, by omega⟩ ⟨y.toNat, by omega⟩ ⟨k, hk⟩
  simpa only [Int.toNat_of_nonneg h0, Int.toNat_of_nonneg k0] using this

theorem meet_zero_all : ∀ (x y : Fin 64), (meetI x.val y.val == 0) = decide (∀ k : Fin 6, (hasB x.val k.val && hasB y.val k.val) = false) := by decide +kernel
theorem meet_zero {x y : Int} (h0 : 0 ≤ x) (h1 : x < 64) (k0 : 0 ≤ y) (k1 : y < 64) : (meetI x y == 0) = true ↔ ∀ k : Nat, k < 6 → ¬ (hasB x k = true ∧ hasB y k = true) := by
  have h := meet_zero_all ⟨x.toNat, by omega⟩ ⟨y.toNat, by omega⟩
  simp only [Int.toNat_of_nonneg h0, Int.toNat_of_nonneg k0] at h
  rw [h, decide_eq_true_iff]
  constructor
  · intro hh k hk ⟨a, b⟩
    have := hh ⟨k, hk⟩
    simp only [a, b] at this
    exact absurd this (by decide)
  · intro hh k
    have := hh k.val k.isLt
    cases h1 : hasB x k.val <;> cases h2 : hasB y k.val <;> simp_all

theorem hasB_pow_all : ∀ (i : Fin 6) (k : Fin 6), hasB ((2 : Int) ^ i.val) k.val = (i.val == k.val) := by decide +kernel
theorem hasB_pow {i k : Nat} (hi : i < 6) (hk : k < 6) : hasB ((2 : Int) ^ i) k = (i == k) := hasB_pow_all ⟨i, hi⟩ ⟨k, hk⟩

theorem full_hasB_all : ∀ (g : Fin 7) (x : Fin 64), (x.val : Int) ≤ full g.val → ∀ k : Fin 6, hasB x.val k.val = true → k.val < g.val := by decide +kernel
theorem full_hasB {g x : Int} (g0 : 0 ≤ g) (g1 : g ≤ 6) (h0 : 0 ≤ x) (h1 : x ≤ full g) {k : Nat} (hk : k < 6) (h : hasB x k = true) : (k : Int) < g := by
  have hf := full_range g0 g1
  have := full_hasB_all ⟨g.toNat, by omega⟩ ⟨x.toNat, by omega⟩ (by simp only [Int.toNat_of_nonneg h0, Int.toNat_of_nonneg g0]; exact h1) ⟨k, hk⟩ (by simpa only [Int.toNat_of_nonneg h0] using h)
  simp only at this
  omega
end Go.Proofs.YthbainbgimbjeaaDoor

namespace Go.Proofs.YthbainbgimbjeaaDoor
open Go.RowKit

def menuOk (g : Int) (m : List Int) : Bool := inR g 0 6 && (decide (m.length ≤ 6) && rangeOk (full g) m)

theorem menuOk_g {g : Int} {m : List Int} (h : menuOk g m = true) : 0 ≤ g ∧ g ≤ 6 := by
  unfold menuOk at h
  simp only [Bool.and_eq_true, inR_iff] at h
  exact h.1
theorem menuOk_len {g : Int} {m : List Int} (h : menuOk g m = true) : m.length ≤ 6 := by
  unfold menuOk at h
  simp only [Bool.and_eq_true, decide_eq_true_eq] at h
  exact h.2.1
theorem rangeOk_mem {hi : Int} {m : List Int} (h : rangeOk hi m = true) {x : Int} (hx : x ∈ m) : 0 ≤ x ∧ x ≤ hi := by
  unfold rangeOk at h
  exact inR_iff.1 (List.all_eq_true.1 h x hx)
theorem menuOk_at {g : Int} {m : List Int} (h : menuOk g m = true) {x : Int} (hx : x ∈ m) : 0 ≤ x ∧ x ≤ full g ∧ x < 64 := by
  have hg := menuOk_g h
  have hf := full_range hg.1 hg.2
  unfold menuOk at h
  simp only [Bool.and_eq_true] at h
  have := rangeOk_mem h.2.2 hx
  omega

/-- For all numbers below n. -/
def allN (n : Nat) (f : Nat → Bool) : Bool := (List.range n).all f
theorem allN_iff {n : Nat} {f : Nat → Bool} : allN n f = true ↔ ∀ i, i < n → f i = true := by
  unfold allN
  simp [List.all_eq_true]
theorem allN_false {n : Nat} {f : Nat → Bool} {i : Nat} (h : i < n) (hf : f i = false) : allN n f = false := by
  cases hh : allN n f with
  | false => rfl
  | true => rw [allN_iff.1 hh i h] at hf; exact absurd hf (by decide)

def fedGo (d : Int) : Nat → List Int → Int → Int
  | _, [], out => out
  | k, x :: r, out => fedGo d (k + 1) r (if hasB d k = true then orI out x else out)
def fedL (g : Int) (m : List Int) (d : Int) : Int := if (menuOk g m && inR d 0 (full m.length)) = true then fedGo d 0 m 0 else -1
def feedsL (g : Int) (m : List Int) (d : Int) : Bool := decide (0 ≤ fedL g m d) && (fedL g m d == full g)

theorem fedGo_range {d : Int} : ∀ (m : List Int) (k : Nat) (out : Int), (∀ x ∈ m, 0 ≤ x ∧ x < 64) → 0 ≤ out → out < 64 → 0 ≤ fedGo d k m out ∧ fedGo d k m out < 64
  | [], _, out, _, h0, h1 => ⟨h0, h1⟩
  | x :: r, k, out, hm, h0, h1 => by
    unfold fedGo
    have hx := hm x (by simp)
    have ho := orI_lt h1 hx.2
    split
    · exact fedGo_range r _ _ (fun y hy => hm y (by simp [hy])) ho.1 ho.2
    · exact fedGo_range r _ _ (fun y hy => hm y (by simp [hy])) h0 h1

/-- Is there a dish that both eat? -/
def eatsBoth (m : List Int) (x y : Nat) : Bool := m.any (fun e => hasB e x && hasB e y)
theorem eatsBoth_comm (m : List Int) (x y : Nat) : eatsBoth m x y = eatsBoth m y x := by
  unfold eatsBoth
  congr 1
  funext e
  exact Bool.and_comm _ _

def shGo (i : Nat) : List Int → Int → Int
  | [], acc => acc
  | e :: r, acc => shGo i r (if hasB e i = true then orI acc (dropI e (2 ^ i)) else acc)
def sharersL (g : Int) (m : List Int) : List Int := tab g.toNat (fun i => shGo i m 0)

theorem shGo_range {i : Nat} (hi : i < 6) : ∀ (m : List Int) (acc : Int), (∀ x ∈ m, 0 ≤ x ∧ x < 64) → 0 ≤ acc → acc < 64 → 0 ≤ shGo i m acc ∧ shGo i m acc < 64
  | [], acc, _, h0, h1 => ⟨h0, h1⟩
  | x :: r, acc, hm, h0, h1 => by
    unfold shGo
    have hx := hm x (by simp)
    have hp := pow_range i hi
    have hd := drop_range hx.1 hx.2 (y := 2 ^ i) (by omega) hp.2
    have ho := orI_lt (b := dropI x (2 ^ i)) h1 (by omega)
    split
    · exact shGo_range hi r _ (fun y hy => hm y (by simp [hy])) ho.1 ho.2
    · exact shGo_range hi r _ (fun y hy => hm y (by simp [hy])) h0 h1

theorem shGo_has {i k : Nat} (hi : i < 6) (hk : k < 6) : ∀ (m : List Int) (acc : Int), (∀ x ∈ m, 0 ≤ x ∧ x < 64) → 0 ≤ acc → acc < 64 → hasB (shGo i m acc) k = (hasB acc k || (eatsBoth m i k && !(i == k)))
  | [], acc, _, h0, h1 => by simp [shGo, eatsBoth]
  | x :: r, acc, hm, h0, h1 => by
    unfold shGo
    have hx := hm x (by simp)
    have hp := pow_range i hi
    have hd := drop_range hx.1 hx.2 (y := 2 ^ i) (by omega) hp.2
    have ho := orI_lt (b := dropI x (2 ^ i)) h1 (by omega)
    have e1 : eatsBoth (x :: r) i k = ((hasB x i && hasB x k) || eatsBoth r i k) := by unfold eatsBoth; rw [List.any_cons]
    rw [e1]
    cases h : hasB x i with
    | false =>
      rw [if_neg (by simp), shGo_has hi hk r _ (fun y hy => hm y (by simp [hy])) h0 h1]
      simp
    | true =>
      rw [if_pos rfl, shGo_has hi hk r _ (fun y hy => hm y (by simp [hy])) ho.1 ho.2, hasB_orI _ h0 hd.1, hasB_drop hx.1 hx.2 (by omega) hp.2 k hk, hasB_pow hi hk]
      cases hasB acc k <;> cases hasB x k <;> cases eatsBoth r i k <;> cases (i == k) <;> rfl

def apGo (s : Int) : Nat → List Int → Bool
  | _, [] => true
  | k, o :: r => (!hasB s k || meetI o s == 0) && apGo s (k + 1) r
/-- Nobody in the set meets another one. -/
def apartS (s : Int) (ms : List Int) : Bool := apGo s 0 ms

theorem apGo_iff {s : Int} : ∀ (ms : List Int) (k : Nat), apGo s k ms = true ↔ ∀ j o, ms[j]? = some o → hasB s (k + j) = true → (meetI o s == 0) = true
  | [], k => by simp [apGo]
  | o :: r, k => by
    unfold apGo
    rw [Bool.and_eq_true, apGo_iff r (k + 1)]
    constructor
    · intro ⟨a, b⟩ j p hj hs
      cases j with
      | zero =>
        have : o = p := by simpa using hj
        subst this
        have hs' : hasB s k = true := hs
        rw [hs'] at a
        simpa using a
      | succ j => exact b j p (by simpa using hj) (by rw [show k + 1 + j = k + (j + 1) from by omega]; exact hs)
    · intro h
      refine ⟨?_, fun j p hj hs => h (j + 1) p (by simpa using hj) (by rw [show k + (j + 1) = k + 1 + j from by omega]; exact hs)⟩
      cases hs : hasB s k with
      | false => rfl
      | true => simpa using h 0 o rfl hs

def setGo : List Int → Int → Int
  | [], acc => acc
  | n :: r, acc => setGo r (orI acc (2 ^ n.toNat))
def setL (xs : List Int) : Int := setGo xs 0

theorem setGo_range : ∀ (xs : List Int) (acc : Int), (∀ x ∈ xs, 0 ≤ x ∧ x < 6) → 0 ≤ acc → acc < 64 → 0 ≤ setGo xs acc ∧ setGo xs acc < 64
  | [], acc, _, h0, h1 => ⟨h0, h1⟩
  | x :: r, acc, hm, h0, h1 => by
    unfold setGo
    have hx := hm x (by simp)
    have hp := pow_range x.toNat (by omega)
    have ho := orI_lt h1 hp.2
    exact setGo_range r _ (fun y hy => hm y (by simp [hy])) ho.1 ho.2

theorem setGo_has {k : Nat} (hk : k < 6) : ∀ (xs : List Int) (acc : Int), (∀ x ∈ xs, 0 ≤ x ∧ x < 6) → 0 ≤ acc → acc < 64 → (hasB (setGo xs acc) k = true ↔ hasB acc k = true ∨ (k : Int) ∈ xs)
  | [], acc, _, h0, h1 => by simp [setGo]
  | x :: r, acc, hm, h0, h1 => by
    unfold setGo
    have hx := hm x (by simp)
    have hp := pow_range x.toNat (by omega)
    have ho := orI_lt h1 hp.2
    rw [setGo_has hk r _ (fun y hy => hm y (by simp [hy])) ho.1 ho.2, hasB_orI _ h0 (by omega), hasB_pow (by omega) hk, Bool.or_eq_true, beq_iff_eq, List.mem_cons]
    constructor
    · rintro ((h | h) | h)
      · exact .inl h
      · exact .inr (.inl (by omega))
      · exact .inr (.inr h)
    · rintro (h | h | h)
      · exact .inl (.inl h)
      · exact .inl (.inr (by omega))
      · exact .inr h

theorem ascGo_iff {g : Int} : ∀ (xs : List Int) (least : Int), ascGo g least xs = true ↔ ∀ a x, xs[a]? = some x → inR x (if a = 0 then least else xs.getD (a - 1) 0 + 1) (g - 1) = true
  | [], _ => by simp [ascGo]
  | n :: r, least => by
    unfold ascGo
    rw [Bool.and_eq_true, ascGo_iff r (n + 1)]
    constructor
    · intro ⟨h1, h2⟩ a x hx
      cases a with
      | zero =>
        have : n = x := by simpa using hx
        subst this
        rw [if_pos rfl]
        exact h1
      | succ a =>
        have := h2 a x (by simpa using hx)
        rw [if_neg (by omega)]
        cases a with
        | zero => simpa using this
        | succ a => simpa using this
    · intro h
      refine ⟨by simpa using h 0 n rfl, fun a x hx => ?_⟩
      have := h (a + 1) x (by simpa using hx)
      rw [if_neg (by omega)] at this
      cases a with
      | zero => simpa using this
      | succ a => simpa using this

theorem ascGo_range {g : Int} : ∀ {xs : List Int} {least : Int}, 0 ≤ least → ascGo g least xs = true → ∀ x ∈ xs, least ≤ x ∧ x < g
  | [], _, _, _, x, hx => by simp at hx
  | n :: r, least, h0, h, x, hx => by
    unfold ascGo at h
    rw [Bool.and_eq_true, inR_iff] at h
    rcases List.mem_cons.1 hx with rfl | hx
    · omega
    · have := ascGo_range (by omega) h.2 x hx
      omega

theorem ascGo_lt {g : Int} : ∀ {xs : List Int} {least : Int}, ascGo g least xs = true → 0 ≤ least → ∀ {a b : Nat} {x y : Int}, b < a → xs[a]? = some x → xs[b]? = some y → y < x
  | [], _, _, _, a, b, x, y, _, hx, _ => by simp at hx
  | n :: r, least, h, h0, a, b, x, y, hab, hx, hy => by
    unfold ascGo at h
    rw [Bool.and_eq_true, inR_iff] at h
    cases a with
    | zero => omega
    | succ a =>
      have hx : r[a]? = some x := by simpa using hx
      cases b with
      | zero =>
        have : n = y := by simpa using hy
        subst this
        have := ascGo_range (by omega) h.2 x (List.mem_of_getElem? hx)
        omega
      | succ b => exact ascGo_lt (a := a) (b := b) h.2 (by omega) (by omega) hx (by simpa using hy)

/-- A list of guests as the reference model looks at it: one after the other, and each against all before it. -/
def rowApart (g : Int) (m xs : List Int) (a : Nat) : Bool :=
  (inR (xs.getD a 0) 0 (g - 1) && (decide (a = 0) || decide (xs.getD (a - 1) 0 < xs.getD a 0))) && allN a (fun b => !eatsBoth m (xs.getD a 0).toNat (xs.getD b 0).toNat)
def apartL (g : Int) (m xs : List Int) : Bool := menuOk g m && allN xs.length (rowApart g m xs)

theorem getD_at {xs : List Int} {a : Nat} {x : Int} (h : xs[a]? = some x) : xs.getD a 0 = x := by simp [List.getD, h]

theorem apartL_eq {g : Int} {m xs : List Int} (hM : menuOk g m = true) : apartL g m xs = (ascGo g 0 xs && apartS (setL xs) (sharersL g m)) := by
  have hg := menuOk_g hM
  have hm : ∀ x ∈ m, 0 ≤ x ∧ x < 64 := fun x hx => ⟨(menuOk_at hM hx).1, (menuOk_at hM hx).2.2⟩
  unfold apartL
  rw [hM, Bool.true_and]
  cases hA : ascGo g 0 xs with
  | false =>
    rw [Bool.false_and]
    cases hh : allN xs.length (rowApart g m xs) with
    | false => rfl
    | true =>
      exfalso
      have : ascGo g 0 xs = true := by
        rw [ascGo_iff]
        intro a x hx
        have ha : a < xs.length := (List.getElem?_eq_some_iff.1 hx).1
        have h := allN_iff.1 hh a ha
        unfold rowApart at h
        rw [getD_at hx] at h
        simp only [Bool.and_eq_true, Bool.or_eq_true, decide_eq_true_eq, inR_iff] at h
        rw [inR_iff]
        split
        · omega
        · omega
      rw [this] at hA
      exact absurd hA (by decide)
  | true =>
    rw [Bool.true_and, Bool.eq_iff_iff, allN_iff]
    have hr := ascGo_range (Int.le_refl 0) hA
    have hr6 : ∀ x ∈ xs, 0 ≤ x ∧ x < 6 := fun x hx => by have := hr x hx; omega
    have hs : 0 ≤ setL xs ∧ setL xs < 64 := setGo_range xs 0 hr6 (by omega) (by omega)
    have hset : ∀ k : Nat, k < 6 → (hasB (setL xs) k = true ↔ (k : Int) ∈ xs) := by
      intro k hk
      unfold setL
      rw [setGo_has hk xs 0 hr6 (by omega) (by omega)]
      have : hasB 0 k = false := by unfold hasB; simp
      rw [this]
      simp
    unfold apartS
    rw [apGo_iff]
    constructor
    · intro h j o hj hsj
      rw [Nat.zero_add] at hsj
      have hjl : j < g.toNat := by
        have := (List.getElem?_eq_some_iff.1 hj).1
        unfold sharersL at this
        rwa [tab_len] at this
      have ho : o = shGo j m 0 := by
        unfold sharersL at hj
        rw [tab_at hjl] at hj
        injection hj with hj
        exact hj.symm
      subst ho
      have hor := shGo_range (i := j) (by omega) m 0 hm (by omega) (by omega)
      rw [meet_zero hor.1 hor.2 hs.1 hs.2]
      intro k hk ⟨h1, h2⟩
      rw [shGo_has (by omega) hk m 0 hm (by omega) (by omega), show hasB 0 k = false from by unfold hasB; simp, Bool.false_or, Bool.and_eq_true] at h1
      have hjk : j ≠ k := by
        intro e
        subst e
        simp at h1
      have hjx := (hset j (by omega)).1 hsj
      have hkx := (hset k hk).1 h2
      obtain ⟨p, hp⟩ := List.getElem?_of_mem hjx
      obtain ⟨q, hq⟩ := List.getElem?_of_mem hkx
      have hpl := (List.getElem?_eq_some_iff.1 hp).1
      have hql := (List.getElem?_eq_some_iff.1 hq).1
      rcases Nat.lt_trichotomy p q with e | e | e
      · have h := h q hql
        unfold rowApart at h
        simp only [Bool.and_eq_true] at h
        have := allN_iff.1 h.2 p e
        rw [getD_at hp, getD_at hq, Int.toNat_natCast, Int.toNat_natCast, eatsBoth_comm, h1.1] at this
        exact absurd this (by decide)
      · subst e
        rw [hp] at hq
        injection hq with hq
        omega
      · have h := h p hpl
        unfold rowApart at h
        simp only [Bool.and_eq_true] at h
        have := allN_iff.1 h.2 q e
        rw [getD_at hp, getD_at hq, Int.toNat_natCast, Int.toNat_natCast, h1.1] at this
        exact absurd this (by decide)
    · intro h a ha
      unfold rowApart
      have hx : xs[a]? = some xs[a] := List.getElem?_eq_getElem ha
      rw [getD_at hx]
      have hxr := hr _ (List.mem_of_getElem? hx)
      simp only [Bool.and_eq_true, inR_iff, Bool.or_eq_true, decide_eq_true_eq]
      refine ⟨⟨by omega, ?_⟩, ?_⟩
      · by_cases e : a = 0
        · exact .inl e
        · refine .inr ?_
          have hy : xs[a - 1]? = some xs[a - 1] := List.getElem?_eq_getElem (by omega)
          rw [getD_at hy]
          exact ascGo_lt hA (Int.le_refl 0) (by omega) hx hy
      · rw [allN_iff]
        intro b hb
        have hy : xs[b]? = some (xs[b]'(by omega)) := List.getElem?_eq_getElem (by omega)
        rw [getD_at hy]
        have hyr := hr _ (List.mem_of_getElem? hy)
        have hlt := ascGo_lt hA (Int.le_refl 0) hb hx hy
        generalize xs[a] = x at *
        generalize (xs[b]'(by omega)) = y at *
        cases he : eatsBoth m x.toNat y.toNat with
        | false => rfl
        | true =>
          exfalso
          have hj : (sharersL g m)[x.toNat]? = some (shGo x.toNat m 0) := by unfold sharersL; exact tab_at (by omega)
          have hor := shGo_range (i := x.toNat) (by omega) m 0 hm (by omega) (by omega)
          have hx2 : hasB (setL xs) x.toNat = true := (hset _ (by omega)).2 (by rw [Int.toNat_of_nonneg hxr.1]; exact List.mem_of_getElem? hx)
          have hy2 : hasB (setL xs) y.toNat = true := (hset _ (by omega)).2 (by rw [Int.toNat_of_nonneg hyr.1]; exact List.mem_of_getElem? hy)
          have := h x.toNat _ hj (by rw [Nat.zero_add]; exact hx2)
          rw [meet_zero hor.1 hor.2 hs.1 hs.2] at this
          refine this y.toNat (by omega) ⟨?_, hy2⟩
          rw [shGo_has (by omega) (by omega) m 0 hm (by omega) (by omega), he]
          have : (x.toNat == y.toNat) = false := by rw [beq_eq_false_iff_ne]; omega
          rw [this]
          simp
end Go.Proofs.YthbainbgimbjeaaDoor

namespace Go.Proofs.YthbainbgimbjeaaDoor
open Go.RowKit

def hasI (xs : List Int) (x : Int) : Bool := xs.any (fun y => y == x)
def freshGo (seen : List Int) : List Int → Bool
  | [] => true
  | x :: r => !(hasI seen x) && freshGo (seen ++ [x]) r
def orderOkL (order : List Int) (many : Int) : Bool := (decide ((order.length : Int) = many) && rangeOk (many - 1) order) && freshGo [] order

theorem hasI_iff {xs : List Int} {x : Int} : hasI xs x = true ↔ x ∈ xs := by
  unfold hasI
  rw [List.any_eq_true]
  constructor
  · rintro ⟨y, hy, e⟩
    have : y = x := by simpa using e
    exact this ▸ hy
  · exact fun h => ⟨x, h, by simp⟩
theorem hasI_false {xs : List Int} {x : Int} : hasI xs x = false ↔ x ∉ xs := by
  rw [← hasI_iff]
  simp

theorem freshGo_nodup : ∀ {seen xs : List Int}, seen.Nodup → freshGo seen xs = true → (seen ++ xs).Nodup
  | seen, [], h, _ => by simpa using h
  | seen, x :: r, h, hf => by
    unfold freshGo at hf
    simp only [Bool.and_eq_true, Bool.not_eq_true'] at hf
    have hx := hasI_false.1 hf.1
    have hs : (seen ++ [x]).Nodup := by
      rw [List.nodup_append]
      exact ⟨h, by simp, fun a ha b hb e => by
        simp only [List.mem_cons, List.not_mem_nil, or_false] at hb
        subst hb e
        exact hx ha⟩
    have := freshGo_nodup hs hf.2
    simpa using this

theorem orderOkL_parts {order : List Int} {many : Int} (h : orderOkL order many = true) : ∃ n : Nat, many = n ∧ order.length = n ∧ rangeOk ((n : Int) - 1) order = true ∧ order.Nodup := by
  unfold orderOkL at h
  simp only [Bool.and_eq_true, decide_eq_true_eq] at h
  refine ⟨order.length, by omega, rfl, ?_, ?_⟩
  · rw [h.1.1]
    exact h.1.2
  · have := freshGo_nodup (seen := []) (by simp) h.2
    simpa using this

/-- Distinct numbers from 0 on and below n are at most n; if they are n, each sum over them is the sum over all. -/
theorem nodup_len : ∀ (n : Nat) (l : List Int), l.Nodup → (∀ x ∈ l, 0 ≤ x ∧ x < n) → l.length ≤ n
  | 0, l, _, h => by
    cases l with
    | nil => simp
    | cons x r => have := h x (by simp); omega
  | n + 1, l, hn, h => by
    by_cases hm : (n : Int) ∈ l
    · have ih := nodup_len n (l.erase n) (hn.erase _) (fun x hx => by
        have a := (hn.mem_erase_iff).1 hx
        have b := h x a.2
        omega)
      rw [List.length_erase_of_mem hm] at ih
      omega
    · have ih := nodup_len n l hn (fun x hx => by
        have b := h x hx
        have : x ≠ n := fun e => hm (e ▸ hx)
        omega)
      omega
theorem sumL_app (a b : List Int) : sumL (a ++ b) = sumL a + sumL b := by
  induction a with
  | nil => simp [sumL]
  | cons x r ih => simp only [List.cons_append, sumL, ih]; omega
theorem sumL_erase {f : Int → Int} {y : Int} : ∀ {l : List Int}, y ∈ l → sumL (l.map f) = f y + sumL ((l.erase y).map f)
  | [], h => by simp at h
  | x :: r, h => by
    by_cases e : x = y
    · subst e
      simp [sumL]
    · have hr : y ∈ r := by
        rcases List.mem_cons.1 h with h | h
        · exact absurd h.symm e
        · exact h
      rw [List.erase_cons_tail (by simpa using e)]
      simp only [List.map_cons, sumL, sumL_erase (f := f) hr]
      omega
theorem sum_all {f : Int → Int} : ∀ (n : Nat) (l : List Int), l.Nodup → (∀ x ∈ l, 0 ≤ x ∧ x < n) → l.length = n → sumL (l.map f) = sumL (tab n (fun i => f i))
  | 0, l, _, _, hl => by
    have : l = [] := List.eq_nil_of_length_eq_zero hl
    subst this
    simp [tab, sumL]
  | n + 1, l, hn, h, hl => by
    have hm : (n : Int) ∈ l := by
      refine Classical.byContradiction fun hm => ?_
      have := nodup_len n l hn (fun x hx => by
        have b := h x hx
        have : x ≠ n := fun e => hm (e ▸ hx)
        omega)
      omega
    have ih := sum_all (f := f) n (l.erase n) (hn.erase _) (fun x hx => by
        have a := (hn.mem_erase_iff).1 hx
        have b := h x a.2
        omega) (by rw [List.length_erase_of_mem hm]; omega)
    rw [sumL_erase hm, ih, ← tab_snoc, sumL_app]
    simp [sumL]
    omega

set_option maxHeartbeats 400000 in
theorem l1Has_any (A : Option Addr) (c : Nat) (xs : List Int) (x : Int) (w : World) (hA : IntsAt w A xs) (hl : xs.length ≤ 1048576) :
    Calls Tryd.prog 48 #[.slice A xs.length c, .int .i64 x] w fun e w' => e = .returned (.bool (hasI xs x)) ∧ w' = w := by
  go_enter Tryd.func48, Tryd.ntmps48
  go_wp2_with fail
  go_loopw [5] (fun i wr => ∃ (k : Nat), k ≤ xs.length ∧ i = .int .i64 k ∧ Hid (hasI xs x = hasI (xs.drop k) x) ∧ wr = w) (fun i _ => xs.length - (intOf i).toNat)
  case atStart => exact ⟨0, Nat.zero_le _, rfl, hide rfl, rfl⟩
  case round =>
    obtain ⟨k, hk, rfl, HG, rfl⟩ := hrel
    by_cases hlt : k < xs.length
    · obtain ⟨b, off, rfl, hbl, hc1⟩ := hA k xs[k] (List.getElem?_eq_getElem hlt)
      have HD : Hid (xs.drop k = xs[k] :: xs.drop (k + 1)) := hide (List.drop_eq_getElem_cons hlt)
      generalize xs[k] = p at *
      have hz : (0 : Int) ≤ k := by omega
      have hz2 : (k : Int) < xs.length := by omega
      cases hp : (p == x) with
      | true =>
        have H3 : Hid (hasI xs x = true) := hide (by rw [HG.out, HD.out]; unfold hasI; rw [List.any_cons, hp]; rfl)
        go_wp2_with fail
        go_ret
        exact ⟨by rw [H3.out]; rfl, rfl⟩
      | false =>
        have H3 : Hid (hasI xs x = hasI (xs.drop (k + 1)) x) := hide (by rw [HG.out, HD.out]; unfold hasI; rw [List.any_cons, hp]; rfl)
        go_wp2_with fail
        go_roundw
        case rel => exact ⟨k + 1, hlt, by go_num, H3, trivial⟩
        case measure => simp [intOf]; omega
    · have H3 : Hid (hasI xs x = false) := hide (by rw [HG.out, List.drop_of_length_le (by omega)]; rfl)
      go_wp2_with fail
      go_ret
      exact ⟨by rw [H3.out]; rfl, rfl⟩
end Go.Proofs.YthbainbgimbjeaaDoor

namespace Go.Proofs.YthbainbgimbjeaaDoor
open Go.RowKit

theorem or_drop_all : ∀ x y : Fin 64, sz (orI x.val y.val) = sz x.val + sz (dropI y.val x.val) := by decide +kernel
theorem sz_or {x y : Int} (h0 : 0 ≤ x) (h1 : x < 64) (k0 : 0 ≤ y) (k1 : y < 64) : sz (orI x y) = sz x + sz (dropI y x) := by
  have := or_drop_all ⟨x.toNat, by omega⟩ ⟨y.toNat, by omega⟩
  simpa only [Int.toNat_of_nonneg h0, Int.toNat_of_nonneg k0] using this

def bestGo (fed : Int) : Int → List Int → Int → Int → Int × Int
  | _, [], b, mo => (b, mo)
  | k, e :: r, b, mo => if mo < sz (dropI e fed) then bestGo fed (k + 1) r k (sz (dropI e fed)) else bestGo fed (k + 1) r b mo
def bestL (m : List Int) (fed : Int) : Int := (bestGo fed 0 m (-1) 0).1

theorem bestGo_at {fed : Int} : ∀ (r : List Int) (k b mo : Int) (P : Int → Prop), P b → (∀ (j : Nat) e, r[j]? = some e → mo < sz (dropI e fed) → P (k + j)) → 0 ≤ mo → P (bestGo fed k r b mo).1
  | [], k, b, mo, P, hb, _, _ => hb
  | e :: r, k, b, mo, P, hb, h, hm => by
    unfold bestGo
    split
    · rename_i hlt
      refine bestGo_at r (k + 1) k _ P (by simpa using h 0 e rfl hlt) (fun j e' he' hl => ?_) (by omega)
      have := h (j + 1) e' (by simpa using he') (by omega)
      rwa [show k + ((j + 1 : Nat) : Int) = k + 1 + j from by omega] at this
    · refine bestGo_at r (k + 1) b mo P hb (fun j e' he' hl => ?_) hm
      have := h (j + 1) e' (by simpa using he') hl
      rwa [show k + ((j + 1 : Nat) : Int) = k + 1 + j from by omega] at this

theorem bestL_at (m : List Int) (fed : Int) : bestL m fed = -1 ∨ ∃ (j : Nat) (e : Int), m[j]? = some e ∧ 0 < sz (dropI e fed) ∧ bestL m fed = j := by
  unfold bestL
  refine bestGo_at m 0 (-1) 0 (fun b => b = -1 ∨ ∃ (j : Nat) (e : Int), m[j]? = some e ∧ 0 < sz (dropI e fed) ∧ b = j) (.inl rfl) (fun j e he hl => .inr ⟨j, e, he, hl, by omega⟩) (by omega)

def greedyGo (m : List Int) : Nat → Int → List Int
  | 0, _ => []
  | f + 1, fed => if bestL m fed < 0 then [] else bestL m fed :: greedyGo m f (orI fed (m.getD (bestL m fed).toNat 0))
def greedyL (g : Int) (m : List Int) : List Int := if menuOk g m = true then greedyGo m 7 0 else []

theorem greedyGo_len (m : List Int) : ∀ f fed, (greedyGo m f fed).length ≤ f
  | 0, _ => Nat.le_refl _
  | f + 1, fed => by
    unfold greedyGo
    split
    · simp
    · simpa using greedyGo_len m f _
theorem greedyL_len (g : Int) (m : List Int) : (greedyL g m).length ≤ 1048576 := by
  unfold greedyL
  split
  · have := greedyGo_len m 7 0
    omega
  · simp

def quarBad (q : List Int) (a b : Nat) : Bool := hasB (q.getD a 0) b && (decide (b = a) || !hasB (q.getD b 0) a)
def quarFine (q : List Int) (a : Nat) : Bool := allN q.length (fun b => !quarBad q a b)
def quarOk (g : Int) (q : List Int) : Bool := inR g 0 6 && ((decide ((q.length : Int) = g) && rangeOk (full g) q) && allN q.length (quarFine q))

theorem quarOk_g {g : Int} {q : List Int} (h : quarOk g q = true) : 0 ≤ g ∧ g ≤ 6 ∧ (q.length : Int) = g := by
  unfold quarOk at h
  simp only [Bool.and_eq_true, inR_iff, decide_eq_true_eq] at h
  exact ⟨h.1.1, h.1.2, h.2.1.1⟩
theorem quarOk_range {g : Int} {q : List Int} (h : quarOk g q = true) : rangeOk (full g) q = true := by
  unfold quarOk at h
  simp only [Bool.and_eq_true] at h
  exact h.2.1.2
theorem quarOk_at {g : Int} {q : List Int} (h : quarOk g q = true) {x : Int} (hx : x ∈ q) : 0 ≤ x ∧ x ≤ full g ∧ x < 64 := by
  have hg := quarOk_g h
  have hf := full_range hg.1 hg.2.1
  have := rangeOk_mem (quarOk_range h) hx
  omega
theorem quarOk_getD {g : Int} {q : List Int} (h : quarOk g q = true) (k : Nat) : 0 ≤ q.getD k 0 ∧ q.getD k 0 ≤ full g ∧ q.getD k 0 < 64 := by
  have hg := quarOk_g h
  have hf := full_range hg.1 hg.2.1
  by_cases hk : k < q.length
  · rw [show q.getD k 0 = q[k] from by simp [hk]]
    exact quarOk_at h (List.getElem_mem hk)
  · rw [show q.getD k 0 = 0 from by simp [hk]]
    omega
theorem quarOk_self {g : Int} {q : List Int} (h : quarOk g q = true) {a : Nat} (ha : a < q.length) : hasB (q.getD a 0) a = false := by
  unfold quarOk at h
  simp only [Bool.and_eq_true] at h
  have := allN_iff.1 (allN_iff.1 h.2.2 a ha) a ha
  unfold quarBad at this
  cases hh : hasB (q.getD a 0) a with
  | false => rfl
  | true => rw [hh] at this; simp at this
theorem quarOk_sym {g : Int} {q : List Int} (h : quarOk g q = true) {a b : Nat} (ha : a < q.length) (hb : b < q.length) (hh : hasB (q.getD a 0) b = true) : hasB (q.getD b 0) a = true := by
  unfold quarOk at h
  simp only [Bool.and_eq_true] at h
  have := allN_iff.1 (allN_iff.1 h.2.2 a ha) b hb
  unfold quarBad at this
  rw [hh] at this
  cases h2 : hasB (q.getD b 0) a with
  | true => rfl
  | false => rw [h2] at this; simp at this

/-- A row as the reference model looks at it. -/
def quarRow (g : Int) (q : List Int) (a : Nat) : Bool :=
  (inR (q.getD a 0) 0 (full g) && !hasB (q.getD a 0) a) && allN a (fun b => inR (q.getD b 0) 0 (full g) && (hasB (q.getD a 0) b == hasB (q.getD b 0) a))

theorem rangeOk_iff {hi : Int} {q : List Int} : rangeOk hi q = true ↔ ∀ a, a < q.length → inR (q.getD a 0) 0 hi = true := by
  unfold rangeOk
  rw [List.all_eq_true]
  constructor
  · intro h a ha
    rw [show q.getD a 0 = q[a] from by simp [ha]]
    exact h _ (List.getElem_mem ha)
  · intro h x hx
    obtain ⟨a, ha⟩ := List.getElem?_of_mem hx
    have hal := (List.getElem?_eq_some_iff.1 ha).1
    have := h a hal
    rwa [getD_at ha] at this

theorem quarOk_rows {g : Int} {q : List Int} (hg : inR g 0 6 = true) (hl : (q.length : Int) = g) : quarOk g q = allN q.length (quarRow g q) := by
  unfold quarOk
  rw [hg, decide_eq_true hl, Bool.true_and, Bool.true_and, Bool.eq_iff_iff, Bool.and_eq_true, allN_iff, allN_iff, rangeOk_iff]
  constructor
  · intro ⟨hr, hs⟩ a ha
    unfold quarRow
    rw [Bool.and_eq_true, Bool.and_eq_true, allN_iff]
    have h1 := hs a ha
    unfold quarFine at h1
    rw [allN_iff] at h1
    refine ⟨⟨hr a ha, ?_⟩, fun b hb => ?_⟩
    · have := h1 a ha
      unfold quarBad at this
      cases hh : hasB (q.getD a 0) a <;> rw [hh] at this <;> simp_all
    · rw [Bool.and_eq_true]
      refine ⟨hr b (by omega), ?_⟩
      have h2 := h1 b (by omega)
      have h3 := hs b (by omega)
      unfold quarFine at h3
      rw [allN_iff] at h3
      have h4 := h3 a ha
      unfold quarBad at h2 h4
      rw [decide_eq_false (by omega : ¬ b = a)] at h2
      rw [decide_eq_false (by omega : ¬ a = b)] at h4
      cases x1 : hasB (q.getD a 0) b <;> cases x2 : hasB (q.getD b 0) a <;> simp_all
  · intro h
    refine ⟨fun a ha => ?_, fun a ha => ?_⟩
    · have := h a ha
      unfold quarRow at this
      rw [Bool.and_eq_true, Bool.and_eq_true] at this
      exact this.1.1
    · unfold quarFine
      rw [allN_iff]
      intro b hb
      have h1 := h a ha
      have h2 := h b hb
      unfold quarRow at h1 h2
      rw [Bool.and_eq_true, Bool.and_eq_true, allN_iff] at h1 h2
      unfold quarBad
      rcases Nat.lt_trichotomy a b with e | e | e
      · have := h2.2 a e
        rw [decide_eq_false (by omega : ¬ b = a)]
        cases x1 : hasB (q.getD a 0) b <;> cases x2 : hasB (q.getD b 0) a <;> simp_all
      · subst e
        have := h1.1.2
        cases x1 : hasB (q.getD a 0) a <;> simp_all
      · have := h1.2 b e
        rw [decide_eq_false (by omega : ¬ b = a)]
        cases x1 : hasB (q.getD a 0) b <;> cases x2 : hasB (q.getD b 0) a <;> simp_all

def seatBad (q s : List Int) (a b : Nat) : Bool := (s.getD b 0 == s.getD a 0) && hasB (q.getD a 0) b
def seatFine (q s : List Int) (a : Nat) : Bool := allN a (fun b => !seatBad q s a b)
def seatsOkL (g : Int) (q s : List Int) : Bool := quarOk g q && ((decide ((s.length : Int) = g) && rangeOk (g - 1) s) && allN s.length (seatFine q s))
def seatRow (g : Int) (q s : List Int) (a : Nat) : Bool := inR (s.getD a 0) 0 (g - 1) && seatFine q s a

theorem seatsOkL_rows {g : Int} {q s : List Int} (hq : quarOk g q = true) (hl : (s.length : Int) = g) : seatsOkL g q s = allN s.length (seatRow g q s) := by
  unfold seatsOkL
  rw [hq, decide_eq_true hl, Bool.true_and, Bool.true_and, Bool.eq_iff_iff, Bool.and_eq_true, allN_iff, allN_iff, rangeOk_iff]
  unfold seatRow
  constructor
  · intro ⟨h1, h2⟩ a ha
    rw [h1 a ha, h2 a ha]; rfl
  · intro h
    refine ⟨fun a ha => ?_, fun a ha => ?_⟩
    · have := h a ha
      rw [Bool.and_eq_true] at this
      exact this.1
    · have := h a ha
      rw [Bool.and_eq_true] at this
      exact this.2

/-- Does somebody at the table t quarrel with a guest? -/
def clash (qa : Int) (s : List Int) (t : Int) : Bool := (List.range s.length).any (fun b => (s.getD b 0 == t) && hasB qa b)
def findT (qa : Int) (s : List Int) : Nat → Int → Int
  | 0, t => t
  | f + 1, t => if clash qa s t = true then findT qa s f (t + 1) else t
def tableOf (qa : Int) (s : List Int) : Int := findT qa s s.length 0
def seatsTo (q : List Int) : Nat → List Int
  | 0 => []
  | a + 1 => seatsTo q a ++ [tableOf (q.getD a 0) (seatsTo q a)]
def seatsFirstL (g : Int) (q : List Int) : List Int := if quarOk g q = true then seatsTo q q.length else []

theorem seatsTo_len (q : List Int) : ∀ a, (seatsTo q a).length = a
  | 0 => rfl
  | a + 1 => by simp [seatsTo, seatsTo_len q a]
theorem findT_range (qa : Int) (s : List Int) : ∀ (f : Nat) (t : Int), t ≤ findT qa s f t ∧ findT qa s f t ≤ t + f
  | 0, t => by simp [findT]
  | f + 1, t => by
    unfold findT
    split
    · have := findT_range qa s f (t + 1)
      omega
    · omega
theorem tableOf_range (qa : Int) (s : List Int) : 0 ≤ tableOf qa s ∧ tableOf qa s ≤ s.length := by
  have := findT_range qa s s.length 0
  unfold tableOf
  omega
theorem seatsTo_at (q : List Int) : ∀ a b, b < a → 0 ≤ (seatsTo q a).getD b 0 ∧ (seatsTo q a).getD b 0 ≤ b
  | 0, b, h => by omega
  | a + 1, b, h => by
    unfold seatsTo
    by_cases e : b < a
    · have := seatsTo_at q a b e
      rwa [List.getD_eq_getElem?_getD, List.getElem?_append_left (by rw [seatsTo_len]; exact e), ← List.getD_eq_getElem?_getD]
    · have : b = a := by omega
      subst this
      have hr := tableOf_range (q.getD b 0) (seatsTo q b)
      rw [seatsTo_len] at hr
      rw [List.getD_eq_getElem?_getD, List.getElem?_append_right (by rw [seatsTo_len]; exact Nat.le_refl _), seatsTo_len]
      simpa using hr
theorem clash_iff {qa : Int} {s : List Int} {t : Int} : clash qa s t = true ↔ ∃ b, b < s.length ∧ s.getD b 0 = t ∧ hasB qa b = true := by
  unfold clash
  simp [List.any_eq_true]
/-- The table that is found is the first one without a quarrel. -/
theorem findT_of {qa : Int} {s : List Int} : ∀ (n f : Nat) (t : Int), n ≤ f → (∀ i : Nat, i < n → clash qa s (t + i) = true) → (n < f → clash qa s (t + n) = false) → findT qa s f t = t + n
  | 0, 0, t, _, _, _ => by simp [findT]
  | 0, f + 1, t, _, _, h => by
    unfold findT
    have := h (by omega)
    simp only [Int.natCast_zero, Int.add_zero] at this
    rw [if_neg (by rw [this]; decide)]
    simp
  | n + 1, 0, t, h, _, _ => by omega
  | n + 1, f + 1, t, h, h1, h2 => by
    unfold findT
    have := h1 0 (by omega)
    simp only [Int.natCast_zero, Int.add_zero] at this
    rw [if_pos this, findT_of n f (t + 1) (by omega) (fun i hi => by have := h1 (i + 1) (by omega); rwa [show t + ((i + 1 : Nat) : Int) = t + 1 + i from by omega] at this)
      (fun hn => by have := h2 (by omega); rwa [show t + ((n + 1 : Nat) : Int) = t + 1 + n from by omega] at this)]
    omega
theorem clash_end (q : List Int) (qa : Int) (a : Nat) : clash qa (seatsTo q a) a = false := by
  cases h : clash qa (seatsTo q a) a with
  | false => rfl
  | true =>
    obtain ⟨b, hb, h1, _⟩ := clash_iff.1 h
    rw [seatsTo_len] at hb
    have := seatsTo_at q a b hb
    omega
/-- As both the program and the model find it. -/
theorem tableOf_of {q : List Int} {qa : Int} {a n : Nat} (hn : n ≤ a) (h1 : ∀ i : Nat, i < n → clash qa (seatsTo q a) i = true) (h2 : clash qa (seatsTo q a) n = false) : tableOf qa (seatsTo q a) = n := by
  unfold tableOf
  rw [findT_of n _ 0 (by rw [seatsTo_len]; exact hn) (fun i hi => by rw [Int.zero_add]; exact h1 i hi) (fun _ => by rw [Int.zero_add]; exact h2)]
  omega
theorem seatsFirstL_len (g : Int) (q : List Int) : (seatsFirstL g q).length ≤ q.length := by
  unfold seatsFirstL
  split
  · rw [seatsTo_len]; exact Nat.le_refl _
  · simp

/-- How many different numbers a list has. -/
def manyGo (seen : List Int) : List Int → Int
  | [] => 0
  | x :: r => (if hasI seen x then 0 else 1) + manyGo (seen ++ [x]) r
end Go.Proofs.YthbainbgimbjeaaDoor

namespace Go.Proofs.YthbainbgimbjeaaDoor
open Go.RowKit

theorem hasB_ext_all : ∀ x y : Fin 64, (∀ k : Fin 6, hasB x.val k.val = hasB y.val k.val) → x.val = y.val := by decide +kernel
theorem hasB_ext {x y : Int} (h0 : 0 ≤ x) (h1 : x < 64) (k0 : 0 ≤ y) (k1 : y < 64) (h : ∀ k : Nat, k < 6 → hasB x k = hasB y k) : x = y := by
  have := hasB_ext_all ⟨x.toNat, by omega⟩ ⟨y.toNat, by omega⟩ (fun k => by simp only [Int.toNat_of_nonneg h0, Int.toNat_of_nonneg k0]; exact h k.val k.isLt)
  simp only at this
  omega
theorem hasB_meet_all : ∀ (x y : Fin 64) (k : Fin 6), hasB (meetI x.val y.val) k.val = (hasB x.val k.val && hasB y.val k.val) := by decide +kernel
theorem hasB_meet {x y : Int} (h0 : 0 ≤ x) (h1 : x < 64) (k0 : 0 ≤ y) (k1 : y < 64) (k : Nat) (hk : k < 6) : hasB (meetI x y) k = (hasB x k && hasB y k) := by
  have := hasB_meet_all ⟨x.toNat, by omega⟩ ⟨y.toNat, by omega⟩ ⟨k, hk⟩
  simpa only [Int.toNat_of_nonneg h0, Int.toNat_of_nonneg k0] using this
theorem hasB_full_all : ∀ (g : Fin 7) (k : Fin 6), hasB (full g.val) k.val = decide (k.val < g.val) := by decide +kernel
theorem one_out_all : ∀ (x : Fin 64) (k : Fin 6), hasB x.val k.val = true → dropI x.val (2 ^ k.val) = x.val - 2 ^ k.val ∧ sz (x.val - 2 ^ k.val) = sz x.val - 1 := by decide +kernel
theorem one_out {x : Int} (h0 : 0 ≤ x) (h1 : x < 64) {k : Nat} (hk : k < 6) (h : hasB x k = true) : dropI x (2 ^ k) = x - 2 ^ k ∧ sz (x - 2 ^ k) = sz x - 1 := by
  have := one_out_all ⟨x.toNat, by omega⟩ ⟨k, hk⟩ (by simpa only [Int.toNat_of_nonneg h0] using h)
  simpa only [Int.toNat_of_nonneg h0] using this
theorem has_one_all : ∀ x : Fin 64, 0 < x.val → ∃ k : Fin 6, hasB x.val k.val = true := by decide +kernel
theorem sz_full_all : ∀ (g : Fin 7) (x : Fin 64), (x.val : Int) ≤ full g.val → sz x.val ≤ g.val := by decide +kernel

/-- Of the sets below n the most guests of one in which nobody meets another one. -/
def mostGo (ms : List Int) : Nat → Int
  | 0 => 0
  | k + 1 => if apartS k ms = true then max (mostGo ms k) (sz k) else mostGo ms k
theorem mostGo_range (ms : List Int) : ∀ n, 0 ≤ mostGo ms n ∧ mostGo ms n ≤ 64
  | 0 => by simp [mostGo]
  | k + 1 => by
    have ih := mostGo_range ms k
    have := sz_bound k
    unfold mostGo
    split <;> omega

def apartMostL (g : Int) (m : List Int) : Int := if menuOk g m = true then mostGo (sharersL g m) (2 ^ g.toNat) else -1

def listTo (s : Int) : Nat → List Int
  | 0 => []
  | k + 1 => if hasB s k = true then listTo s k ++ [(k : Int)] else listTo s k
theorem listTo_len (s : Int) : ∀ n, (listTo s n).length ≤ n
  | 0 => Nat.le_refl _
  | k + 1 => by
    have ih := listTo_len s k
    unfold listTo
    split
    · simpa using ih
    · omega
theorem listTo_all : ∀ (g : Fin 7) (s : Fin 64), (s.val : Int) ≤ full g.val → ascGo g.val 0 (listTo s.val g.val) = true ∧ setL (listTo s.val g.val) = s.val ∧ ((listTo s.val g.val).length : Int) = sz s.val := by decide +kernel
theorem listTo_of {g s : Int} (g0 : 0 ≤ g) (g1 : g ≤ 6) (h0 : 0 ≤ s) (h1 : s ≤ full g) : ascGo g 0 (listTo s g.toNat) = true ∧ setL (listTo s g.toNat) = s ∧ ((listTo s g.toNat).length : Int) = sz s := by
  have hf := full_range g0 g1
  have := listTo_all ⟨g.toNat, by omega⟩ ⟨s.toNat, by omega⟩ (by simp only [Int.toNat_of_nonneg h0, Int.toNat_of_nonneg g0]; exact h1)
  simpa only [Int.toNat_of_nonneg h0, Int.toNat_of_nonneg g0] using this
theorem apartL_listTo {g s : Int} {m : List Int} (hM : menuOk g m = true) (h0 : 0 ≤ s) (h1 : s ≤ full g) : apartL g m (listTo s g.toNat) = apartS s (sharersL g m) := by
  have hg := menuOk_g hM
  have h := listTo_of hg.1 hg.2 h0 h1
  rw [apartL_eq hM, h.1, h.2.1, Bool.true_and]

def peaceL (g : Int) (q : List Int) : List Int := tab g.toNat (fun i => dropI (dropI (full g) (q.getD i 0)) (2 ^ i))
def cliqueMostL (g : Int) (q : List Int) : Int := if quarOk g q = true then mostGo (peaceL g q) (2 ^ g.toNat) else -1
/-- As the reference model looks at a set in which all quarrel. -/
def cliqueIn (q : List Int) (s : Int) (n : Nat) : Bool := allN n (fun k => !hasB s k || (meetI (q.getD k 0) s == s - 2 ^ k))

theorem clique_one {g q s : Int} {k : Nat} (g0 : 0 ≤ g) (g1 : g ≤ 6) (hq0 : 0 ≤ q) (hq1 : q < 64) (h0 : 0 ≤ s) (h1 : s ≤ full g) (hk : k < 6) (hs : hasB s k = true) (hn : hasB q k = false) :
    (meetI (dropI (dropI (full g) q) (2 ^ k)) s == 0) = (meetI q s == s - 2 ^ k) := by
  have hf := full_range g0 g1
  have hp := pow_range k hk
  have d1 := drop_range hf.1 hf.2 hq0 hq1
  have d2 := drop_range d1.1 (by omega) (y := 2 ^ k) (by omega) hp.2
  have hm := meet_range hq0 hq1 h0 (by omega)
  have ho := one_out h0 (by omega) hk hs
  have d3 := drop_range h0 (by omega) (y := 2 ^ k) (by omega) hp.2
  rw [← ho.1, Bool.eq_iff_iff, meet_zero d2.1 (by omega) h0 (by omega), beq_iff_eq]
  constructor
  · intro h
    refine hasB_ext hm.1 (by omega) d3.1 (by omega) (fun j hj => ?_)
    rw [hasB_meet hq0 hq1 h0 (by omega) j hj, hasB_drop h0 (by omega) (by omega) hp.2 j hj, hasB_pow hk hj]
    have h2 := h j hj
    rw [hasB_drop d1.1 (by omega) (by omega) hp.2 j hj, hasB_drop hf.1 hf.2 hq0 hq1 j hj, hasB_pow hk hj] at h2
    cases hsj : hasB s j with
    | false => simp
    | true =>
      have hfj : hasB (full g) j = true := by
        have a := full_hasB g0 g1 h0 h1 hj hsj
        have b := hasB_full_all ⟨g.toNat, by omega⟩ ⟨j, hj⟩
        simp only [Int.toNat_of_nonneg g0] at b
        rw [b]
        exact decide_eq_true (by omega)
      rw [hsj, hfj] at h2
      by_cases e : k = j
      · subst e
        rw [hn]; simp
      · have : (k == j) = false := by rw [beq_eq_false_iff_ne]; exact e
        rw [this] at h2 ⊢
        cases hqj : hasB q j <;> simp_all
  · intro h j hj ⟨h2, h3⟩
    rw [hasB_drop d1.1 (by omega) (by omega) hp.2 j hj, hasB_drop hf.1 hf.2 hq0 hq1 j hj, hasB_pow hk hj] at h2
    have e1 : hasB (meetI q s) j = hasB (dropI s (2 ^ k)) j := by rw [h]
    rw [hasB_meet hq0 hq1 h0 (by omega) j hj, hasB_drop h0 (by omega) (by omega) hp.2 j hj, hasB_pow hk hj, h3] at e1
    cases hqj : hasB q j <;> rw [hqj] at e1 h2 <;> cases hkj : (k == j) <;> rw [hkj] at e1 h2 <;> simp at e1 h2

theorem clique_apart {g s : Int} {q : List Int} (hQ : quarOk g q = true) (h0 : 0 ≤ s) (h1 : s ≤ full g) : apartS s (peaceL g q) = cliqueIn q s g.toNat := by
  have hg := quarOk_g hQ
  have hf := full_range hg.1 hg.2.1
  unfold apartS cliqueIn
  rw [Bool.eq_iff_iff, apGo_iff, allN_iff]
  constructor
  · intro h k hk
    cases hs : hasB s k with
    | false => rfl
    | true =>
      have hx := quarOk_getD hQ k
      have := h k _ (show (peaceL g q)[k]? = some _ from tab_at hk) (by rw [Nat.zero_add]; exact hs)
      rw [clique_one hg.1 hg.2.1 hx.1 hx.2.2 h0 h1 (by omega) hs (quarOk_self hQ (by omega))] at this
      simpa using this
  · intro h k o ho hs
    rw [Nat.zero_add] at hs
    have hk : k < g.toNat := by
      have := (List.getElem?_eq_some_iff.1 ho).1
      unfold peaceL at this
      rwa [tab_len] at this
    have hx := quarOk_getD hQ k
    have e : (peaceL g q)[k]? = some _ := tab_at hk
    rw [e] at ho
    injection ho with ho
    rw [← ho, clique_one hg.1 hg.2.1 hx.1 hx.2.2 h0 h1 (by omega) hs (quarOk_self hQ (by omega))]
    have := h k hk
    rw [hs] at this
    simpa using this

/-- The fewest tables for a set, when the tables of the lesser sets are known: the parts up to n. -/
def partGo (q T : List Int) (s : Int) (init : Int) : Nat → Int
  | 0 => init
  | p + 1 => if ((meetI ((p + 1 : Nat) : Int) s == ((p + 1 : Nat) : Int)) && apartS ((p + 1 : Nat) : Int) q) = true then min (partGo q T s init p) (T.getD (s - ((p + 1 : Nat) : Int)).toNat 0 + 1) else partGo q T s init p
def cellI (q T : List Int) (n : Nat) : Int := partGo q T n (sz n) n
def cellS (g : Int) (q T : List Int) (n : Nat) : Int := if n = 0 then 0 else partGo q T n g n
def tblI (q : List Int) : Nat → List Int
  | 0 => []
  | n + 1 => tblI q n ++ [cellI q (tblI q n) n]
def tblS (g : Int) (q : List Int) : Nat → List Int
  | 0 => []
  | n + 1 => tblS g q n ++ [cellS g q (tblS g q n) n]
theorem tblI_len (q : List Int) : ∀ n, (tblI q n).length = n
  | 0 => rfl
  | n + 1 => by simp [tblI, tblI_len q n]

theorem partGo_min (q T : List Int) (s a b : Int) : ∀ n, partGo q T s (min a b) n = min a (partGo q T s b n)
  | 0 => rfl
  | n + 1 => by
    unfold partGo
    rw [partGo_min q T s a b n]
    split
    · omega
    · rfl
theorem partGo_le (q T : List Int) (s init : Int) : ∀ (n p : Nat), 0 < p → p ≤ n → (meetI (p : Int) s == (p : Int)) = true → apartS (p : Int) q = true → partGo q T s init n ≤ T.getD (s - (p : Int)).toNat 0 + 1
  | 0, p, h0, h1, _, _ => by omega
  | n + 1, p, h0, h1, h2, h3 => by
    unfold partGo
    by_cases e : p = n + 1
    · subst e
      rw [h2, h3, if_pos (show (true && true) = true from rfl)]
      omega
    · have := partGo_le q T s init n p h0 (by omega) h2 h3
      split <;> omega

theorem apart_one {g : Int} {q : List Int} (hQ : quarOk g q = true) {k : Nat} (hk : k < 6) : apartS (2 ^ k) q = true := by
  have hg := quarOk_g hQ
  have hp := pow_range k hk
  unfold apartS
  rw [apGo_iff]
  intro j o hj hs
  rw [Nat.zero_add] at hs
  have hjl := (List.getElem?_eq_some_iff.1 hj).1
  have ho := quarOk_at hQ (List.mem_of_getElem? hj)
  rw [hasB_pow hk (by omega), beq_iff_eq] at hs
  subst hs
  have hself := quarOk_self hQ hjl
  rw [getD_at hj] at hself
  rw [meet_zero ho.1 ho.2.2 (by omega) hp.2]
  intro i hi ⟨a, b⟩
  rw [hasB_pow hk hi, beq_iff_eq] at b
  subst b
  rw [hself] at a
  exact absurd a (by decide)

/-- Both ways lead to the same tables, and a set never needs more tables than guests. -/
theorem tbl_same {g : Int} {q : List Int} (hQ : quarOk g q = true) : ∀ n : Nat, n ≤ 2 ^ g.toNat → tblI q n = tblS g q n ∧ ∀ k, k < n → (tblI q n).getD k 0 ≤ sz k
  | 0, _ => ⟨rfl, fun k hk => by omega⟩
  | n + 1, hn => by
    have hg := quarOk_g hQ
    obtain ⟨ih, ihl⟩ := tbl_same hQ n (by omega)
    have hf := full_range hg.1 hg.2.1
    have hnf : (n : Int) ≤ full g := by
      unfold full
      have : ((n + 1 : Nat) : Int) ≤ ((2 ^ g.toNat : Nat) : Int) := by exact_mod_cast hn
      rw [Int.natCast_pow] at this
      push_cast at this
      omega
    have key : cellI q (tblI q n) n = cellS g q (tblS g q n) n ∧ cellI q (tblI q n) n ≤ sz n := by
      unfold cellI cellS
      by_cases h0 : n = 0
      · subst h0
        rw [if_pos rfl]
        have : sz ((0 : Nat) : Int) = 0 := by decide +kernel
        unfold partGo
        omega
      · rw [if_neg h0, ← ih]
        obtain ⟨k, hk⟩ := has_one_all ⟨n, by omega⟩ (by simp only; omega)
        simp only at hk
        have ho := one_out (x := (n : Int)) (by omega) (by omega) k.isLt hk
        have hp := pow_range k.val k.isLt
        have hpe : (2 : Int) ^ k.val = ((2 ^ k.val : Nat) : Int) := by simp
        have hd := drop_range (x := (n : Int)) (by omega) (by omega) (y := 2 ^ k.val) (by omega) hp.2
        have hle : ∀ init, partGo q (tblI q n) n init n ≤ sz n := by
          intro init
          have h1 := partGo_le q (tblI q n) n init n (2 ^ k.val) (by omega) (by omega)
            (by rw [beq_iff_eq, ← hpe]
                have e1 : orI (2 ^ k.val) (n : Int) = orI (n : Int) (2 ^ k.val) := by unfold orI; rw [Nat.or_comm]
                have e2 := ho.1
                unfold dropI at e2
                unfold meetI
                rw [e1]
                omega)
            (by rw [← hpe]; exact apart_one hQ k.isLt)
          have h2 := ihl ((n : Int) - ((2 ^ k.val : Nat) : Int)).toNat (by omega)
          rw [Int.toNat_of_nonneg (by omega), ← hpe, ho.2] at h2
          rw [← hpe] at h1
          omega
        have hs := sz_full_all ⟨g.toNat, by omega⟩ ⟨n, by omega⟩ (by simp only [Int.toNat_of_nonneg hg.1]; exact hnf)
        simp only [Int.toNat_of_nonneg hg.1] at hs
        have a1 := partGo_min q (tblI q n) n (sz n) 64 n
        have a2 := partGo_min q (tblI q n) n g 64 n
        have hz := sz_bound n
        rw [Int.min_eq_left (by omega)] at a1 a2
        have := hle 64
        have := hle (sz n)
        omega
    refine ⟨by unfold tblI tblS; rw [key.1, ih], fun k hk => ?_⟩
    unfold tblI
    by_cases e : k < n
    · have := ihl k e
      rwa [List.getD_eq_getElem?_getD, List.getElem?_append_left (by rw [tblI_len]; exact e), ← List.getD_eq_getElem?_getD]
    · have : k = n := by omega
      subst this
      rw [List.getD_eq_getElem?_getD, List.getElem?_append_right (by rw [tblI_len]; exact Nat.le_refl _), tblI_len]
      simpa using key.2

def seatsLeastL (g : Int) (q : List Int) : Int := if quarOk g q = true then (tblI q (2 ^ g.toNat)).getD (2 ^ g.toNat - 1) 0 else -1
end Go.Proofs.YthbainbgimbjeaaDoor

namespace Go.Proofs.YthbainbgimbjeaaDoor
open Go.RowKit

/-- Who of the first guests sits at a table. -/
def sitTo (q : List Int) : Nat → Int → Int
  | 0, _ => 0
  | a + 1, t => if tableOf (q.getD a 0) (seatsTo q a) = t then orI (sitTo q a t) (2 ^ a) else sitTo q a t

theorem sitTo_range (q : List Int) : ∀ (a : Nat) (t : Int), a ≤ 6 → 0 ≤ sitTo q a t ∧ sitTo q a t < 64
  | 0, _, _ => by simp [sitTo]
  | a + 1, t, h => by
    have ih := sitTo_range q a t (by omega)
    have hp := pow_range a (by omega)
    have ho := orI_lt ih.2 hp.2
    unfold sitTo
    split
    · exact ho
    · exact ih

theorem seatsTo_getD_lt (q : List Int) {a b : Nat} (h : b < a) : (seatsTo q (a + 1)).getD b 0 = (seatsTo q a).getD b 0 := by
  rw [seatsTo, List.getD_eq_getElem?_getD, List.getElem?_append_left (by rw [seatsTo_len]; exact h), ← List.getD_eq_getElem?_getD]
theorem seatsTo_getD_eq (q : List Int) (a : Nat) : (seatsTo q (a + 1)).getD a 0 = tableOf (q.getD a 0) (seatsTo q a) := by
  rw [seatsTo, List.getD_eq_getElem?_getD, List.getElem?_append_right (by rw [seatsTo_len]; exact Nat.le_refl _), seatsTo_len]
  simp

theorem sitTo_has (q : List Int) {b : Nat} (hb : b < 6) : ∀ (a : Nat) (t : Int), a ≤ 6 → (hasB (sitTo q a t) b = true ↔ b < a ∧ (seatsTo q a).getD b 0 = t)
  | 0, t, _ => by
    have : hasB (sitTo q 0 t) b = false := by unfold sitTo hasB; simp
    rw [this]
    simp
  | a + 1, t, h => by
    have ih := sitTo_has q hb a t (by omega)
    have hr := sitTo_range q a t (by omega)
    have hp := pow_range a (by omega)
    unfold sitTo
    rcases Nat.lt_trichotomy b a with e | e | e
    · rw [seatsTo_getD_lt q e]
      split
      · rw [hasB_orI _ hr.1 (by omega), hasB_pow (by omega) hb, show (a == b) = false from by rw [beq_eq_false_iff_ne]; omega, Bool.or_false, ih]
        omega
      · rw [ih]
        omega
    · subst e
      rw [seatsTo_getD_eq]
      split
      · rename_i h2
        rw [hasB_orI _ hr.1 (by omega), hasB_pow hb hb, h2]
        simp
      · rename_i h2
        rw [ih]
        constructor
        · intro ⟨h3, _⟩; omega
        · intro ⟨_, h3⟩; exact absurd h3 h2
    · split
      · rw [hasB_orI _ hr.1 (by omega), hasB_pow (by omega) hb, show (a == b) = false from by rw [beq_eq_false_iff_ne]; omega, Bool.or_false, ih]
        constructor
        · intro ⟨h3, _⟩; omega
        · intro ⟨h3, _⟩; omega
      · rw [ih]
        constructor
        · intro ⟨h3, _⟩; omega
        · intro ⟨h3, _⟩; omega

theorem clash_sit (q : List Int) {a : Nat} (ha : a ≤ 6) {u : Int} (h0 : 0 ≤ u) (h1 : u < 64) (t : Int) : (meetI (sitTo q a t) u == 0) = !clash u (seatsTo q a) t := by
  have hr := sitTo_range q a t ha
  rw [Bool.eq_iff_iff, meet_zero hr.1 hr.2 h0 h1, Bool.not_eq_true']
  constructor
  · intro h
    cases hc : clash u (seatsTo q a) t with
    | false => rfl
    | true =>
      obtain ⟨b, hb, h2, h3⟩ := clash_iff.1 hc
      rw [seatsTo_len] at hb
      exact absurd ⟨(sitTo_has q (by omega) a t ha).2 ⟨hb, h2⟩, h3⟩ (h b (by omega))
  · intro h k hk ⟨h2, h3⟩
    obtain ⟨h4, h5⟩ := (sitTo_has q hk a t ha).1 h2
    have : clash u (seatsTo q a) t = true := clash_iff.2 ⟨k, by rw [seatsTo_len]; exact h4, h5, h3⟩
    rw [h] at this
    exact absurd this (by decide)

theorem tab_self {L : List Int} {n : Nat} (h : L.length = n) : tab n (fun j => L.getD j 0) = L := by
  apply List.ext_getElem?
  intro i
  by_cases hi : i < n
  · rw [tab_at hi]
    simp [h, hi]
  · rw [List.getElem?_eq_none (by rw [tab_len]; omega), List.getElem?_eq_none (by omega)]
end Go.Proofs.YthbainbgimbjeaaDoor
