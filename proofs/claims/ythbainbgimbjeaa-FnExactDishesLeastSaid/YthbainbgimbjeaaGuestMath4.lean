/- GuestMath4: the most guests apart, those who all quarrel, the fewest tables; plain mathematics.
   Conditions: sets are below 64. -/
import Derived.Test.YthbainbgimbjeaaGuestMath3
namespace Go.Proofs.Ythbainbgimbjeaa
open Go.RowKit

theorem hasB_ext_all : ∀ x y : Fin 64, (∀ k : Fin 6, hasB x.val k.val = hasB y.val k.val) → x.val = y.val := by decide +kernel
theorem hasB_ext {x y : Int} (h0 : 0 ≤ x) (h1 : x < 64) (k0 : 0 ≤ y) (k1 : y < 64) (h : ∀ k : Nat, k < 6 → hasB x k = hasB y k) : x = y := by
  have := hasB_ext_all ⟨x.toNat, by omega⟩ ⟨y.toNat, by omega⟩ (fun k => by simp only [Int.toNat_of_nonneg h0, Int.toNat_of_nonneg k0]; exact h k.val k.isLt)
  simp only at this
  omega
theorem hasB_meet_all : ∀ (x y : Fin 64) (k : Fin 6), hasB (meetI x.val y.val) k.val = (hasB x.val k.val && hasB y.val k.val) := by decide +kernel
theorem hasB_meet {x y : Int} (h0 : 0 ≤ x) (h1 : x < 64) (k0 : 0 ≤ y) (k1 : y < 64) (k : Nat) (hk : k < 6) : hasB (meetI x y) k = (hasB x k && hasB y k) := by
  have := hasB_meet_all ⟨x.toNat, by omega⟩ ⟨y.toNat, by omega⟩ ⟨k, hk⟩
  simpa only [Int.toNat_of_nonneg h0, Int.toNat_of_nonneg k0] using this
theorem hasB_full_all : ∀ (g : Fin 7) (k : Fin 6), hasB (full g.val) k.val = decide (k.val < g.val) := by decide +kernel
theorem one_out_all : ∀ (x : Fin 64) (k : Fin 6), hasB x.val k.val = true → dropI x.val (2 ^ k.val) = x.val - 2 ^ k.val ∧ sz (x.val - 2 ^ k.val) = sz x.val - 1 := by decide +kernel
theorem one_out {x : Int} (h0 : 0 ≤ x) (h1 : x < 64) {k : Nat} (hk : k < 6) (h : hasB x k = true) : dropI x (2 ^ k) = x - 2 ^ k ∧ sz (x - 2 ^ k) = sz x - 1 := by
  have := one_out_all ⟨x.toNat, by omega⟩ ⟨k, hk⟩ (by simpa only [Int.toNat_of_nonneg h0] using h)
  simpa only [Int.toNat_of_nonneg h0] using this
theorem has_one_all : ∀ x : Fin 64, 0 < x.val → ∃ k : Fin 6, hasB x.val k.val = true := by decide +kernel
theorem sz_full_all : ∀ (g : Fin 7) (x : Fin 64), (x.val : Int) ≤ full g.val → sz x.val ≤ g.val := by decide +kernel

/-- Of the sets below n the most guests of one in which nobody meets another one. -/
def mostGo (ms : List Int) : Nat → Int
  | 0 => 0
  | k + 1 => if apartS k ms = true then max (mostGo ms k) (sz k) else mostGo ms k
theorem mostGo_range (ms : List Int) : ∀ n, 0 ≤ mostGo ms n ∧ mostGo ms n ≤ 64
  | 0 => by simp [mostGo]
  | k + 1 => by
    have ih := mostGo_range ms k
    have := sz_bound k
    unfold mostGo
    split <;> omega

def apartMostL (g : Int) (m : List Int) : Int := if menuOk g m = true then mostGo (sharersL g m) (2 ^ g.toNat) else -1

def listTo (s : Int) : Nat → List Int
  | 0 => []
  | k + 1 => if hasB s k = true then listTo s k ++ [(k : Int)] else listTo s k
theorem listTo_len (s : Int) : ∀ n, (listTo s n).length ≤ n
  | 0 => Nat.le_refl _
  | k + 1 => by
    have ih := listTo_len s k
    unfold listTo
    split
    · simpa using ih
    · omega
theorem listTo_all : ∀ (g : Fin 7) (s : Fin 64), (s.val : Int) ≤ full g.val → ascGo g.val 0 (listTo s.val g.val) = true ∧ setL (listTo s.val g.val) = s.val ∧ ((listTo s.val g.val).length : Int) = sz s.val := by decide +kernel
theorem listTo_of {g s : Int} (g0 : 0 ≤ g) (g1 : g ≤ 6) (h0 : 0 ≤ s) (h1 : s ≤ full g) : ascGo g 0 (listTo s g.toNat) = true ∧ setL (listTo s g.toNat) = s ∧ ((listTo s g.toNat).length : Int) = sz s := by
  have hf := full_range g0 g1
  have := listTo_all ⟨g.toNat, by omega⟩ ⟨s.toNat, by omega⟩ (by simp only [Int.toNat_of_nonneg h0, Int.toNat_of_nonneg g0]; exact h1)
  simpa only [Int.toNat_of_nonneg h0, Int.toNat_of_nonneg g0] using this
theorem apartL_listTo {g s : Int} {m : List Int} (hM : menuOk g m = true) (h0 : 0 ≤ s) (h1 : s ≤ full g) : apartL g m (listTo s g.toNat) = apartS s (sharersL g m) := by
  have hg := menuOk_g hM
  have h := listTo_of hg.1 hg.2 h0 h1
  rw [apartL_eq hM, h.1, h.2.1, Bool.true_and]

def peaceL (g : Int) (q : List Int) : List Int := tab g.toNat (fun i => dropI (dropI (full g) (q.getD i 0)) (2 ^ i))
def cliqueMostL (g : Int) (q : List Int) : Int := if quarOk g q = true then mostGo (peaceL g q) (2 ^ g.toNat) else -1
/-- As the reference model looks at a set in which all quarrel. -/
def cliqueIn (q : List Int) (s : Int) (n : Nat) : Bool := allN n (fun k => !hasB s k || (meetI (q.getD k 0) s == s - 2 ^ k))

theorem clique_one {g q s : Int} {k : Nat} (g0 : 0 ≤ g) (g1 : g ≤ 6) (hq0 : 0 ≤ q) (hq1 : q < 64) (h0 : 0 ≤ s) (h1 : s ≤ full g) (hk : k < 6) (hs : hasB s k = true) (hn : hasB q k = false) :
    (meetI (dropI (dropI (full g) q) (2 ^ k)) s == 0) = (meetI q s == s - 2 ^ k) := by
  have hf := full_range g0 g1
  have hp := pow_range k hk
  have d1 := drop_range hf.1 hf.2 hq0 hq1
  have d2 := drop_range d1.1 (by omega) (y := 2 ^ k) (by omega) hp.2
  have hm := meet_range hq0 hq1 h0 (by omega)
  have ho := one_out h0 (by omega) hk hs
  have d3 := drop_range h0 (by omega) (y := 2 ^ k) (by omega) hp.2
  rw [← ho.1, Bool.eq_iff_iff, meet_zero d2.1 (by omega) h0 (by omega), beq_iff_eq]
  constructor
  · intro h
    refine hasB_ext hm.1 (by omega) d3.1 (by omega) (fun j hj => ?_)
    rw [hasB_meet hq0 hq1 h0 (by omega) j hj, hasB_drop h0 (by omega) (by omega) hp.2 j hj, hasB_pow hk hj]
    have h2 := h j hj
    rw [hasB_drop d1.1 (by omega) (by omega) hp.2 j hj, hasB_drop hf.1 hf.2 hq0 hq1 j hj, hasB_pow hk hj] at h2
    cases hsj : hasB s j with
    | false => simp
    | true =>
      have hfj : hasB (full g) j = true := by
        have a := full_hasB g0 g1 h0 h1 hj hsj
        have b := hasB_full_all ⟨g.toNat, by omega⟩ ⟨j, hj⟩
        simp only [Int.toNat_of_nonneg g0] at b
        rw [b]
        exact decide_eq_true (by omega)
      rw [hsj, hfj] at h2
      by_cases e : k = j
      · subst e
        rw [hn]; simp
      · have : (k == j) = false := by rw [beq_eq_false_iff_ne]; exact e
        rw [this] at h2 ⊢
        cases hqj : hasB q j <;> simp_all
  · intro h j hj ⟨h2, h3⟩
    rw [hasB_drop d1.1 (by omega) (by omega) hp.2 j hj, hasB_drop hf.1 hf.2 hq0 hq1 j hj, hasB_pow hk hj] at h2
    have e1 : hasB (meetI q s) j = hasB (dropI s (2 ^ k)) j := by rw [h]
    rw [hasB_meet hq0 hq1 h0 (by omega) j hj, hasB_drop h0 (by omega) (by omega) hp.2 j hj, hasB_pow hk hj, h3] at e1
    cases hqj : hasB q j <;> rw [hqj] at e1 h2 <;> cases hkj : (k == j) <;> rw [hkj] at e1 h2 <;> simp at e1 h2

theorem clique_apart {g s : Int} {q : List Int} (hQ : quarOk g q = true) (h0 : 0 ≤ s) (h1 : s ≤ full g) : apartS s (peaceL g q) = cliqueIn q s g.toNat := by
  have hg := quarOk_g hQ
  have hf := full_range hg.1 hg.2.1
  unfold apartS cliqueIn
  rw [Bool.eq_iff_iff, apGo_iff, allN_iff]
  constructor
  · intro h k hk
    cases hs : hasB s k with
    | false => rfl
    | true =>
      have hx := quarOk_getD hQ k
      have := h k _ (show (peaceL g q)[k]? = some _ from tab_at hk) (by rw [Nat.zero_add]; exact hs)
      rw [clique_one hg.1 hg.2.1 hx.1 hx.2.2 h0 h1 (by omega) hs (quarOk_self hQ (by omega))] at this
      simpa using this
  · intro h k o ho hs
    rw [Nat.zero_add] at hs
    have hk : k < g.toNat := by
      have := (List.getElem?_eq_some_iff.1 ho).1
      unfold peaceL at this
      rwa [tab_len] at this
    have hx := quarOk_getD hQ k
    have e : (peaceL g q)[k]? = some _ := tab_at hk
    rw [e] at ho
    injection ho with ho
    rw [← ho, clique_one hg.1 hg.2.1 hx.1 hx.2.2 h0 h1 (by omega) hs (quarOk_self hQ (by omega))]
    have := h k hk
    rw [hs] at this
    simpa using this

/-- The fewest tables for a set, when the tables of the lesser sets are known: the parts up to n. -/
def partGo (q T : List Int) (s : Int) (init : Int) : Nat → Int
  | 0 => init
  | p + 1 => if ((meetI ((p + 1 : Nat) : Int) s == ((p + 1 : Nat) : Int)) && apartS ((p + 1 : Nat) : Int) q) = true then min (partGo q T s init p) (T.getD (s - ((p + 1 : Nat) : Int)).toNat 0 + 1) else partGo q T s init p
def cellI (q T : List Int) (n : Nat) : Int := partGo q T n (sz n) n
def cellS (g : Int) (q T : List Int) (n : Nat) : Int := if n = 0 then 0 else partGo q T n g n
def tblI (q : List Int) : Nat → List Int
  | 0 => []
  | n + 1 => tblI q n ++ [cellI q (tblI q n) n]
def tblS (g : Int) (q : List Int) : Nat → List Int
  | 0 => []
  | n + 1 => tblS g q n ++ [cellS g q (tblS g q n) n]
theorem tblI_len (q : List Int) : ∀ n, (tblI q n).length = n
  | 0 => rfl
  | n + 1 => by simp [tblI, tblI_len q n]

theorem partGo_min (q T : List Int) (s a b : Int) : ∀ n, partGo q T s (min a b) n = min a (partGo q T s b n)
  | 0 => rfl
  | n + 1 => by
    unfold partGo
    rw [partGo_min q T s a b n]
    split
    · omega
    · rfl
theorem partGo_le (q T : List Int) (s init : Int) : ∀ (n p : Nat), 0 < p → p ≤ n → (meetI (p : Int) s == (p : Int)) = true → apartS (p : Int) q = true → partGo q T s init n ≤ T.getD (s - (p : Int)).toNat 0 + 1
  | 0, p, h0, h1, _, _ => by omega
  | n + 1, p, h0, h1, h2, h3 => by
    unfold partGo
    by_cases e : p = n + 1
    · subst e
      rw [h2, h3, if_pos (show (true && true) = true from rfl)]
      omega
    · have := partGo_le q T s init n p h0 (by omega) h2 h3
      split <;> omega

theorem apart_one {g : Int} {q : List Int} (hQ : quarOk g q = true) {k : Nat} (hk : k < 6) : apartS (2 ^ k) q = true := by
  have hg := quarOk_g hQ
  have hp := pow_range k hk
  unfold apartS
  rw [apGo_iff]
  intro j o hj hs
  rw [Nat.zero_add] at hs
  have hjl := (List.getElem?_eq_some_iff.1 hj).1
  have ho := quarOk_at hQ (List.mem_of_getElem? hj)
  rw [hasB_pow hk (by omega), beq_iff_eq] at hs
  subst hs
  have hself := quarOk_self hQ hjl
  rw [getD_at hj] at hself
  rw [meet_zero ho.1 ho.2.2 (by omega) hp.2]
  intro i hi ⟨a, b⟩
  rw [hasB_pow hk hi, beq_iff_eq] at b
  subst b
  rw [hself] at a
  exact absurd a (by decide)

/-- Both ways lead to the same tables, and a set never needs more tables than guests. -/
theorem tbl_same {g : Int} {q : List Int} (hQ : quarOk g q = true) : ∀ n : Nat, n ≤ 2 ^ g.toNat → tblI q n = tblS g q n ∧ ∀ k, k < n → (tblI q n).getD k 0 ≤ sz k
  | 0, _ => ⟨rfl, fun k hk => by omega⟩
  | n + 1, hn => by
    have hg := quarOk_g hQ
    obtain ⟨ih, ihl⟩ := tbl_same hQ n (by omega)
    have hf := full_range hg.1 hg.2.1
    have hnf : (n : Int) ≤ full g := by
      unfold full
      have : ((n + 1 : Nat) : Int) ≤ ((2 ^ g.toNat : Nat) : Int) := by exact_mod_cast hn
      rw [Int.natCast_pow] at this
      push_cast at this
      omega
    have key : cellI q (tblI q n) n = cellS g q (tblS g q n) n ∧ cellI q (tblI q n) n ≤ sz n := by
      unfold cellI cellS
      by_cases h0 : n = 0
      · subst h0
        rw [if_pos rfl]
        have : sz ((0 : Nat) : Int) = 0 := by decide +kernel
        unfold partGo
        omega
      · rw [if_neg h0, ← ih]
        obtain ⟨k, hk⟩ := has_one_all ⟨n, by omega⟩ (by simp only; omega)
        simp only at hk
        have ho := one_out (x := (n : Int)) (by omega) (by omega) k.isLt hk
        have hp := pow_range k.val k.isLt
        have hpe : (2 : Int) ^ k.val = ((2 ^ k.val : Nat) : Int) := by simp
        have hd := drop_range (x := (n : Int)) (by omega) (by omega) (y := 2 ^ k.val) (by omega) hp.2
        have hle : ∀ init, partGo q (tblI q n) n init n ≤ sz n := by
          intro init
          have h1 := partGo_le q (tblI q n) n init n (2 ^ k.val) (by omega) (by omega)
            (by rw [beq_iff_eq, ← hpe]
                have e1 : orI (2 ^ k.val) (n : Int) = orI (n : Int) (2 ^ k.val) := by unfold orI; rw [Nat.or_comm]
                have e2 := ho.1
                unfold dropI at e2
                unfold meetI
                rw [e1]
                omega)
            (by rw [← hpe]; exact apart_one hQ k.isLt)
          have h2 := ihl ((n : Int) - ((2 ^ k.val : Nat) : Int)).toNat (by omega)
          rw [Int.toNat_of_nonneg (by omega), ← hpe, ho.2] at h2
          rw [← hpe] at h1
          omega
        have hs := sz_full_all ⟨g.toNat, by omega⟩ ⟨n, by omega⟩ (by simp only [Int.toNat_of_nonneg hg.1]; exact hnf)
        simp only [Int.toNat_of_nonneg hg.1] at hs
        have a1 := partGo_min q (tblI q n) n (sz n) 64 n
        have a2 := partGo_min q (tblI q n) n g 64 n
        have hz := sz_bound n
        rw [Int.min_eq_left (by omega)] at a1 a2
        have := hle 64
        have := hle (sz n)
        omega
    refine ⟨by unfold tblI tblS; rw [key.1, ih], fun k hk => ?_⟩
    unfold tblI
    by_cases e : k < n
    · have := ihl k e
      rwa [List.getD_eq_getElem?_getD, List.getElem?_append_left (by rw [tblI_len]; exact e), ← List.getD_eq_getElem?_getD]
    · have : k = n := by omega
      subst this
      rw [List.getD_eq_getElem?_getD, List.getElem?_append_right (by rw [tblI_len]; exact Nat.le_refl _), tblI_len]
      simpa using key.2

def seatsLeastL (g : Int) (q : List Int) : Int := if quarOk g q = true then (tblI q (2 ^ g.toNat)).getD (2 ^ g.toNat - 1) 0 else -1
end Go.Proofs.Ythbainbgimbjeaa
