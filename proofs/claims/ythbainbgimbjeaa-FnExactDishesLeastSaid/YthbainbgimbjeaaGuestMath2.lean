/- GuestMath2: guests who are apart: pairs of a list, and sets against those who share a dish; plain mathematics.
   Conditions: sets are below 64. -/
import Derived.Test.YthbainbgimbjeaaGuestMath
import Derived.Test.YthbainbgimbjeaaTaskOk
import Derived.Test.YthbainbgimbjeaaTab
namespace Go.Proofs.Ythbainbgimbjeaa
open Go.RowKit

def menuOk (g : Int) (m : List Int) : Bool := inR g 0 6 && (decide (m.length ≤ 6) && rangeOk (full g) m)

theorem menuOk_g {g : Int} {m : List Int} (h : menuOk g m = true) : 0 ≤ g ∧ g ≤ 6 := by
  unfold menuOk at h
  simp only [Bool.and_eq_true, inR_iff] at h
  exact h.1
theorem menuOk_len {g : Int} {m : List Int} (h : menuOk g m = true) : m.length ≤ 6 := by
  unfold menuOk at h
  simp only [Bool.and_eq_true, decide_eq_true_eq] at h
  exact h.2.1
theorem rangeOk_mem {hi : Int} {m : List Int} (h : rangeOk hi m = true) {x : Int} (hx : x ∈ m) : 0 ≤ x ∧ x ≤ hi := by
  unfold rangeOk at h
  exact inR_iff.1 (List.all_eq_true.1 h x hx)
theorem menuOk_at {g : Int} {m : List Int} (h : menuOk g m = true) {x : Int} (hx : x ∈ m) : 0 ≤ x ∧ x ≤ full g ∧ x < 64 := by
  have hg := menuOk_g h
  have hf := full_range hg.1 hg.2
  unfold menuOk at h
  simp only [Bool.and_eq_true] at h
  have := rangeOk_mem h.2.2 hx
  omega

/-- For all numbers below n. -/
def allN (n : Nat) (f : Nat → Bool) : Bool := (List.range n).all f
theorem allN_iff {n : Nat} {f : Nat → Bool} : allN n f = true ↔ ∀ i, i < n → f i = true := by
  unfold allN
  simp [List.all_eq_true]
theorem allN_false {n : Nat} {f : Nat → Bool} {i : Nat} (h : i < n) (hf : f i = false) : allN n f = false := by
  cases hh : allN n f with
  | false => rfl
  | true => rw [allN_iff.1 hh i h] at hf; exact absurd hf (by decide)

def fedGo (d : Int) : Nat → List Int → Int → Int
  | _, [], out => out
  | k, x :: r, out => fedGo d (k + 1) r (if hasB d k = true then orI out x else out)
def fedL (g : Int) (m : List Int) (d : Int) : Int := if (menuOk g m && inR d 0 (full m.length)) = true then fedGo d 0 m 0 else -1
def feedsL (g : Int) (m : List Int) (d : Int) : Bool := decide (0 ≤ fedL g m d) && (fedL g m d == full g)

theorem fedGo_range {d : Int} : ∀ (m : List Int) (k : Nat) (out : Int), (∀ x ∈ m, 0 ≤ x ∧ x < 64) → 0 ≤ out → out < 64 → 0 ≤ fedGo d k m out ∧ fedGo d k m out < 64
  | [], _, out, _, h0, h1 => ⟨h0, h1⟩
  | x :: r, k, out, hm, h0, h1 => by
    unfold fedGo
    have hx := hm x (by simp)
    have ho := orI_lt h1 hx.2
    split
    · exact fedGo_range r _ _ (fun y hy => hm y (by simp [hy])) ho.1 ho.2
    · exact fedGo_range r _ _ (fun y hy => hm y (by simp [hy])) h0 h1

/-- Is there a dish that both eat? -/
def eatsBoth (m : List Int) (x y : Nat) : Bool := m.any (fun e => hasB e x && hasB e y)
theorem eatsBoth_comm (m : List Int) (x y : Nat) : eatsBoth m x y = eatsBoth m y x := by
  unfold eatsBoth
  congr 1
  funext e
  exact Bool.and_comm _ _

def shGo (i : Nat) : List Int → Int → Int
  | [], acc => acc
  | e :: r, acc => shGo i r (if hasB e i = true then orI acc (dropI e (2 ^ i)) else acc)
def sharersL (g : Int) (m : List Int) : List Int := tab g.toNat (fun i => shGo i m 0)

theorem shGo_range {i : Nat} (hi : i < 6) : ∀ (m : List Int) (acc : Int), (∀ x ∈ m, 0 ≤ x ∧ x < 64) → 0 ≤ acc → acc < 64 → 0 ≤ shGo i m acc ∧ shGo i m acc < 64
  | [], acc, _, h0, h1 => ⟨h0, h1⟩
  | x :: r, acc, hm, h0, h1 => by
    unfold shGo
    have hx := hm x (by simp)
    have hp := pow_range i hi
    have hd := drop_range hx.1 hx.2 (y := 2 ^ i) (by omega) hp.2
    have ho := orI_lt (b := dropI x (2 ^ i)) h1 (by omega)
    split
    · exact shGo_range hi r _ (fun y hy => hm y (by simp [hy])) ho.1 ho.2
    · exact shGo_range hi r _ (fun y hy => hm y (by simp [hy])) h0 h1

theorem shGo_has {i k : Nat} (hi : i < 6) (hk : k < 6) : ∀ (m : List Int) (acc : Int), (∀ x ∈ m, 0 ≤ x ∧ x < 64) → 0 ≤ acc → acc < 64 → hasB (shGo i m acc) k = (hasB acc k || (eatsBoth m i k && !(i == k)))
  | [], acc, _, h0, h1 => by simp [shGo, eatsBoth]
  | x :: r, acc, hm, h0, h1 => by
    unfold shGo
    have hx := hm x (by simp)
    have hp := pow_range i hi
    have hd := drop_range hx.1 hx.2 (y := 2 ^ i) (by omega) hp.2
    have ho := orI_lt (b := dropI x (2 ^ i)) h1 (by omega)
    have e1 : eatsBoth (x :: r) i k = ((hasB x i && hasB x k) || eatsBoth r i k) := by unfold eatsBoth; rw [List.any_cons]
    rw [e1]
    cases h : hasB x i with
    | false =>
      rw [if_neg (by simp), shGo_has hi hk r _ (fun y hy => hm y (by simp [hy])) h0 h1]
      simp
    | true =>
      rw [if_pos rfl, shGo_has hi hk r _ (fun y hy => hm y (by simp [hy])) ho.1 ho.2, hasB_orI _ h0 hd.1, hasB_drop hx.1 hx.2 (by omega) hp.2 k hk, hasB_pow hi hk]
      cases hasB acc k <;> cases hasB x k <;> cases eatsBoth r i k <;> cases (i == k) <;> rfl

def apGo (s : Int) : Nat → List Int → Bool
  | _, [] => true
  | k, o :: r => (!hasB s k || meetI o s == 0) && apGo s (k + 1) r
/-- Nobody in the set meets another one. -/
def apartS (s : Int) (ms : List Int) : Bool := apGo s 0 ms

theorem apGo_iff {s : Int} : ∀ (ms : List Int) (k : Nat), apGo s k ms = true ↔ ∀ j o, ms[j]? = some o → hasB s (k + j) = true → (meetI o s == 0) = true
  | [], k => by simp [apGo]
  | o :: r, k => by
    unfold apGo
    rw [Bool.and_eq_true, apGo_iff r (k + 1)]
    constructor
    · intro ⟨a, b⟩ j p hj hs
      cases j with
      | zero =>
        have : o = p := by simpa using hj
        subst this
        have hs' : hasB s k = true := hs
        rw [hs'] at a
        simpa using a
      | succ j => exact b j p (by simpa using hj) (by rw [show k + 1 + j = k + (j + 1) from by omega]; exact hs)
    · intro h
      refine ⟨?_, fun j p hj hs => h (j + 1) p (by simpa using hj) (by rw [show k + (j + 1) = k + 1 + j from by omega]; exact hs)⟩
      cases hs : hasB s k with
      | false => rfl
      | true => simpa using h 0 o rfl hs

def setGo : List Int → Int → Int
  | [], acc => acc
  | n :: r, acc => setGo r (orI acc (2 ^ n.toNat))
def setL (xs : List Int) : Int := setGo xs 0

theorem setGo_range : ∀ (xs : List Int) (acc : Int), (∀ x ∈ xs, 0 ≤ x ∧ x < 6) → 0 ≤ acc → acc < 64 → 0 ≤ setGo xs acc ∧ setGo xs acc < 64
  | [], acc, _, h0, h1 => ⟨h0, h1⟩
  | x :: r, acc, hm, h0, h1 => by
    unfold setGo
    have hx := hm x (by simp)
    have hp := pow_range x.toNat (by omega)
    have ho := orI_lt h1 hp.2
    exact setGo_range r _ (fun y hy => hm y (by simp [hy])) ho.1 ho.2

theorem setGo_has {k : Nat} (hk : k < 6) : ∀ (xs : List Int) (acc : Int), (∀ x ∈ xs, 0 ≤ x ∧ x < 6) → 0 ≤ acc → acc < 64 → (hasB (setGo xs acc) k = true ↔ hasB acc k = true ∨ (k : Int) ∈ xs)
  | [], acc, _, h0, h1 => by simp [setGo]
  | x :: r, acc, hm, h0, h1 => by
    unfold setGo
    have hx := hm x (by simp)
    have hp := pow_range x.toNat (by omega)
    have ho := orI_lt h1 hp.2
    rw [setGo_has hk r _ (fun y hy => hm y (by simp [hy])) ho.1 ho.2, hasB_orI _ h0 (by omega), hasB_pow (by omega) hk, Bool.or_eq_true, beq_iff_eq, List.mem_cons]
    constructor
    · rintro ((h | h) | h)
      · exact .inl h
      · exact .inr (.inl (by omega))
      · exact .inr (.inr h)
    · rintro (h | h | h)
      · exact .inl (.inl h)
      · exact .inl (.inr (by omega))
      · exact .inr h

theorem ascGo_iff {g : Int} : ∀ (xs : List Int) (least : Int), ascGo g least xs = true ↔ ∀ a x, xs[a]? = some x → inR x (if a = 0 then least else xs.getD (a - 1) 0 + 1) (g - 1) = true
  | [], _ => by simp [ascGo]
  | n :: r, least => by
    unfold ascGo
    rw [Bool.and_eq_true, ascGo_iff r (n + 1)]
    constructor
    · intro ⟨h1, h2⟩ a x hx
      cases a with
      | zero =>
        have : n = x := by simpa using hx
        subst this
        rw [if_pos rfl]
        exact h1
      | succ a =>
        have := h2 a x (by simpa using hx)
        rw [if_neg (by omega)]
        cases a with
        | zero => simpa using this
        | succ a => simpa using this
    · intro h
      refine ⟨by simpa using h 0 n rfl, fun a x hx => ?_⟩
      have := h (a + 1) x (by simpa using hx)
      rw [if_neg (by omega)] at this
      cases a with
      | zero => simpa using this
      | succ a => simpa using this

theorem ascGo_range {g : Int} : ∀ {xs : List Int} {least : Int}, 0 ≤ least → ascGo g least xs = true → ∀ x ∈ xs, least ≤ x ∧ x < g
  | [], _, _, _, x, hx => by simp at hx
  | n :: r, least, h0, h, x, hx => by
    unfold ascGo at h
    rw [Bool.and_eq_true, inR_iff] at h
    rcases List.mem_cons.1 hx with rfl | hx
    · omega
    · have := ascGo_range (by omega) h.2 x hx
      omega

theorem ascGo_lt {g : Int} : ∀ {xs : List Int} {least : Int}, ascGo g least xs = true → 0 ≤ least → ∀ {a b : Nat} {x y : Int}, b < a → xs[a]? = some x → xs[b]? = some y → y < x
  | [], _, _, _, a, b, x, y, _, hx, _ => by simp at hx
  | n :: r, least, h, h0, a, b, x, y, hab, hx, hy => by
    unfold ascGo at h
    rw [Bool.and_eq_true, inR_iff] at h
    cases a with
    | zero => omega
    | succ a =>
      have hx : r[a]? = some x := by simpa using hx
      cases b with
      | zero =>
        have : n = y := by simpa using hy
        subst this
        have := ascGo_range (by omega) h.2 x (List.mem_of_getElem? hx)
        omega
      | succ b => exact ascGo_lt (a := a) (b := b) h.2 (by omega) (by omega) hx (by simpa using hy)

/-- A list of guests as the reference model looks at it: one after the other, and each against all before it. -/
def rowApart (g : Int) (m xs : List Int) (a : Nat) : Bool :=
  (inR (xs.getD a 0) 0 (g - 1) && (decide (a = 0) || decide (xs.getD (a - 1) 0 < xs.getD a 0))) && allN a (fun b => !eatsBoth m (xs.getD a 0).toNat (xs.getD b 0).toNat)
def apartL (g : Int) (m xs : List Int) : Bool := menuOk g m && allN xs.length (rowApart g m xs)

theorem getD_at {xs : List Int} {a : Nat} {x : Int} (h : xs[a]? = some x) : xs.getD a 0 = x := by simp [List.getD, h]

theorem apartL_eq {g : Int} {m xs : List Int} (hM : menuOk g m = true) : apartL g m xs = (ascGo g 0 xs && apartS (setL xs) (sharersL g m)) := by
  have hg := menuOk_g hM
  have hm : ∀ x ∈ m, 0 ≤ x ∧ x < 64 := fun x hx => ⟨(menuOk_at hM hx).1, (menuOk_at hM hx).2.2⟩
  unfold apartL
  rw [hM, Bool.true_and]
  cases hA : ascGo g 0 xs with
  | false =>
    rw [Bool.false_and]
    cases hh : allN xs.length (rowApart g m xs) with
    | false => rfl
    | true =>
      exfalso
      have : ascGo g 0 xs = true := by
        rw [ascGo_iff]
        intro a x hx
        have ha : a < xs.length := (List.getElem?_eq_some_iff.1 hx).1
        have h := allN_iff.1 hh a ha
        unfold rowApart at h
        rw [getD_at hx] at h
        simp only [Bool.and_eq_true, Bool.or_eq_true, decide_eq_true_eq, inR_iff] at h
        rw [inR_iff]
        split
        · omega
        · omega
      rw [this] at hA
      exact absurd hA (by decide)
  | true =>
    rw [Bool.true_and, Bool.eq_iff_iff, allN_iff]
    have hr := ascGo_range (Int.le_refl 0) hA
    have hr6 : ∀ x ∈ xs, 0 ≤ x ∧ x < 6 := fun x hx => by have := hr x hx; omega
    have hs : 0 ≤ setL xs ∧ setL xs < 64 := setGo_range xs 0 hr6 (by omega) (by omega)
    have hset : ∀ k : Nat, k < 6 → (hasB (setL xs) k = true ↔ (k : Int) ∈ xs) := by
      intro k hk
      unfold setL
      rw [setGo_has hk xs 0 hr6 (by omega) (by omega)]
      have : hasB 0 k = false := by unfold hasB; simp
      rw [this]
      simp
    unfold apartS
    rw [apGo_iff]
    constructor
    · intro h j o hj hsj
      rw [Nat.zero_add] at hsj
      have hjl : j < g.toNat := by
        have := (List.getElem?_eq_some_iff.1 hj).1
        unfold sharersL at this
        rwa [tab_len] at this
      have ho : o = shGo j m 0 := by
        unfold sharersL at hj
        rw [tab_at hjl] at hj
        injection hj with hj
        exact hj.symm
      subst ho
      have hor := shGo_range (i := j) (by omega) m 0 hm (by omega) (by omega)
      rw [meet_zero hor.1 hor.2 hs.1 hs.2]
      intro k hk ⟨h1, h2⟩
      rw [shGo_has (by omega) hk m 0 hm (by omega) (by omega), show hasB 0 k = false from by unfold hasB; simp, Bool.false_or, Bool.and_eq_true] at h1
      have hjk : j ≠ k := by
        intro e
        subst e
        simp at h1
      have hjx := (hset j (by omega)).1 hsj
      have hkx := (hset k hk).1 h2
      obtain ⟨p, hp⟩ := List.getElem?_of_mem hjx
      obtain ⟨q, hq⟩ := List.getElem?_of_mem hkx
      have hpl := (List.getElem?_eq_some_iff.1 hp).1
      have hql := (List.getElem?_eq_some_iff.1 hq).1
      rcases Nat.lt_trichotomy p q with e | e | e
      · have h := h q hql
        unfold rowApart at h
        simp only [Bool.and_eq_true] at h
        have := allN_iff.1 h.2 p e
        rw [getD_at hp, getD_at hq, Int.toNat_natCast, Int.toNat_natCast, eatsBoth_comm, h1.1] at this
        exact absurd this (by decide)
      · subst e
        rw [hp] at hq
        injection hq with hq
        omega
      · have h := h p hpl
        unfold rowApart at h
        simp only [Bool.and_eq_true] at h
        have := allN_iff.1 h.2 q e
        rw [getD_at hp, getD_at hq, Int.toNat_natCast, Int.toNat_natCast, h1.1] at this
        exact absurd this (by decide)
    · intro h a ha
      unfold rowApart
      have hx : xs[a]? = some xs[a] := List.getElem?_eq_getElem ha
      rw [getD_at hx]
      have hxr := hr _ (List.mem_of_getElem? hx)
      simp only [Bool.and_eq_true, inR_iff, Bool.or_eq_true, decide_eq_true_eq]
      refine ⟨⟨by omega, ?_⟩, ?_⟩
      · by_cases e : a = 0
        · exact .inl e
        · refine .inr ?_
          have hy : xs[a - 1]? = some xs[a - 1] := List.getElem?_eq_getElem (by omega)
          rw [getD_at hy]
          exact ascGo_lt hA (Int.le_refl 0) (by omega) hx hy
      · rw [allN_iff]
        intro b hb
        have hy : xs[b]? = some (xs[b]'(by omega)) := List.getElem?_eq_getElem (by omega)
        rw [getD_at hy]
        have hyr := hr _ (List.mem_of_getElem? hy)
        have hlt := ascGo_lt hA (Int.le_refl 0) hb hx hy
        generalize xs[a] = x at *
        generalize (xs[b]'(by omega)) = y at *
        cases he : eatsBoth m x.toNat y.toNat with
        | false => rfl
        | true =>
          exfalso
          have hj : (sharersL g m)[x.toNat]? = some (shGo x.toNat m 0) := by unfold sharersL; exact tab_at (by omega)
          have hor := shGo_range (i := x.toNat) (by omega) m 0 hm (by omega) (by omega)
          have hx2 : hasB (setL xs) x.toNat = true := (hset _ (by omega)).2 (by rw [Int.toNat_of_nonneg hxr.1]; exact List.mem_of_getElem? hx)
          have hy2 : hasB (setL xs) y.toNat = true := (hset _ (by omega)).2 (by rw [Int.toNat_of_nonneg hyr.1]; exact List.mem_of_getElem? hy)
          have := h x.toNat _ hj (by rw [Nat.zero_add]; exact hx2)
          rw [meet_zero hor.1 hor.2 hs.1 hs.2] at this
          refine this y.toNat (by omega) ⟨?_, hy2⟩
          rw [shGo_has (by omega) (by omega) m 0 hm (by omega) (by omega), he]
          have : (x.toNat == y.toNat) = false := by rw [beq_eq_false_iff_ne]; omega
          rw [this]
          simp
end Go.Proofs.Ythbainbgimbjeaa
