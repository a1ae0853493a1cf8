/- Contracts of what PlanOk and PlanLeast call: amounts, what is made, the map of what is needed, of the program, and what is left by a plan, of the reference model.
   Conditions: the bounds in each statement. -/
import Derived.Test.YtmepnilnlpoodaaDoorMark
import Derived.Maps.OwnOps
import Derived.Maps.Views
namespace Go.Proofs.YtmepnilnlpoodaaDoor
open Go.RowKit

def conTo (ps : List Part) (r : Int) (j : Nat) : Nat → Int
  | 0 => 0
  | k + 1 => conTo ps r j k + (if (ps.getD k ⟨0, 0⟩).of = (j : Int) then (ps.getD k ⟨0, 0⟩).many * r else 0)

theorem conTo_succ (ps : List Part) (r : Int) (j k : Nat) : conTo ps r j (k + 1) = conTo ps r j k + (if (ps.getD k ⟨0, 0⟩).of = (j : Int) then (ps.getD k ⟨0, 0⟩).many * r else 0) := rfl

theorem many_range {m r : Int} (h0 : 0 ≤ m) (h1 : m ≤ 6) (k0 : 0 ≤ r) (k1 : r ≤ 9999999) : 0 ≤ m * r ∧ m * r ≤ 59999994 :=
  ⟨Int.mul_nonneg h0 k0, Int.le_trans (Int.mul_le_mul h1 k1 k0 (by omega)) (by omega)⟩

theorem getD_parts {ps : List Part} (hp : ∀ p ∈ ps, 0 ≤ p.many ∧ p.many ≤ 6) (k : Nat) : 0 ≤ (ps.getD k ⟨0, 0⟩).many ∧ (ps.getD k ⟨0, 0⟩).many ≤ 6 := by
  by_cases h : k < ps.length
  · have := hp ps[k] (List.getElem_mem h)
    simpa [List.getD_eq_getElem?_getD, h] using this
  · have : ps.getD k ⟨0, 0⟩ = ⟨0, 0⟩ := by simp [List.getD_eq_getElem?_getD, List.getElem?_eq_none (Nat.le_of_not_lt h)]
    rw [this]; simp

theorem conTo_range {ps : List Part} {r : Int} (hp : ∀ p ∈ ps, 0 ≤ p.many ∧ p.many ≤ 6) (k0 : 0 ≤ r) (k1 : r ≤ 9999999) (j : Nat) : ∀ k : Nat, 0 ≤ conTo ps r j k ∧ conTo ps r j k ≤ 59999994 * k
  | 0 => by simp [conTo]
  | k + 1 => by
    have a := conTo_range hp k0 k1 j k
    have b := getD_parts hp k
    have c := many_range b.1 b.2 k0 k1
    rw [conTo_succ]
    split <;> omega

theorem conTo_far {ps : List Part} {r : Int} {j : Nat} (hp : ∀ p ∈ ps, p.of < (j : Int)) : ∀ k : Nat, k ≤ ps.length → conTo ps r j k = 0
  | 0, _ => rfl
  | k + 1, hk => by
    have := hp ps[k] (List.getElem_mem (by omega))
    rw [conTo_succ, conTo_far hp k (by omega), if_neg, Int.add_zero]
    rw [List.getD_eq_getElem?_getD, List.getElem?_eq_getElem (by omega)]
    show ¬ ps[k].of = _
    omega

def nil0 : Item := ⟨0, [], 0⟩

def upS (l : List Item) (rs : List Int) (j : Nat) : Nat → Int
  | 0 => 0
  | k + 1 => upS l rs j k + conTo (l.getD k nil0).parts (rs.getD k 0) j (l.getD k nil0).parts.length

theorem upS_succ (l : List Item) (rs : List Int) (j k : Nat) : upS l rs j (k + 1) = upS l rs j k + conTo (l.getD k nil0).parts (rs.getD k 0) j (l.getD k nil0).parts.length := rfl

def madeI (y r : Int) : Int := if 0 < y then r * y else r

theorem madeI_max {y r : Int} (h : 0 ≤ y) : r * max y 1 = madeI y r := by
  unfold madeI
  split
  · rw [Int.max_eq_left (by omega)]
  · rw [show y = 0 by omega, show max (0 : Int) 1 = 1 from rfl, Int.mul_one]

theorem madeI_range {y r : Int} (h0 : 0 ≤ y) (h1 : y ≤ 6) (k0 : 0 ≤ r) (k1 : r ≤ 9999999) : 0 ≤ madeI y r ∧ madeI y r ≤ 59999994 := by
  unfold madeI
  split
  · rw [Int.mul_comm]; exact many_range h0 h1 k0 k1
  · omega

/-- What is made less what all others need. -/
def leftAt (l : List Item) (want stock rs : List Int) (j : Nat) : Int := stock.getD j 0 + madeI (l.getD j nil0).yield (rs.getD j 0) - want.getD j 0 - upS l rs j l.length

def allTo (P : Nat → Bool) : Nat → Bool
  | 0 => true
  | k + 1 => allTo P k && P k

theorem allTo_succ (P : Nat → Bool) (k : Nat) : allTo P (k + 1) = (allTo P k && P k) := rfl

theorem allTo_false {P : Nat → Bool} {k : Nat} (h : P k = false) : ∀ n, k < n → allTo P n = false
  | 0, hn => absurd hn (by omega)
  | n + 1, hn => by
    rw [allTo_succ]
    by_cases e : k = n
    · subst e; rw [h, Bool.and_false]
    · rw [allTo_false h n (by omega), Bool.false_and]

theorem upS_same {l : List Item} {rs : List Int} {j : Nat} (h : ∀ (i : Nat) (x : Item), l[i]? = some x → ∀ p ∈ x.parts, p.of < (i : Int)) : ∀ k : Nat, k ≤ j + 1 → upS l rs j k = 0
  | 0, _ => rfl
  | k + 1, hk => by
    rw [upS_succ, upS_same h k (by omega), conTo_far _ _ (Nat.le_refl _)]
    · rfl
    · intro p hp
      by_cases hl : k < l.length
      · rw [List.getD_eq_getElem?_getD, List.getElem?_eq_getElem hl] at hp
        have := h k _ (List.getElem?_eq_getElem hl) p hp
        omega
      · rw [List.getD_eq_getElem?_getD, List.getElem?_eq_none (Nat.le_of_not_lt hl)] at hp
        simp [nil0] at hp

theorem conAt_range {l : List Item} {rs : List Int} (h : ∀ (i : Nat) (x : Item), l[i]? = some x → x.parts.length ≤ 3 ∧ ∀ p ∈ x.parts, 0 ≤ p.many ∧ p.many ≤ 6) (hr : ∀ (i : Nat) r, rs[i]? = some r → 0 ≤ r ∧ r ≤ 9999999) (j k : Nat) :
    0 ≤ conTo (l.getD k nil0).parts (rs.getD k 0) j (l.getD k nil0).parts.length ∧ conTo (l.getD k nil0).parts (rs.getD k 0) j (l.getD k nil0).parts.length ≤ 179999982 := by
  by_cases hl : k < l.length
  · obtain ⟨h3, hp⟩ := h k _ (List.getElem?_eq_getElem hl)
    rw [show l.getD k nil0 = l[k] by simp [hl]]
    have hk : 0 ≤ rs.getD k 0 ∧ rs.getD k 0 ≤ 9999999 := by
      by_cases hq : k < rs.length
      · have := hr k _ (List.getElem?_eq_getElem hq)
        simpa [hq] using this
      · rw [List.getD_eq_getElem?_getD, List.getElem?_eq_none (Nat.le_of_not_lt hq)]
        show (0 : Int) ≤ 0 ∧ (0 : Int) ≤ 9999999
        omega
    have := conTo_range hp hk.1 hk.2 j l[k].parts.length
    omega
  · rw [List.getD_eq_getElem?_getD, List.getElem?_eq_none (Nat.le_of_not_lt hl)]
    show (0 : Int) ≤ 0 ∧ (0 : Int) ≤ 179999982
    omega

theorem upS_range {l : List Item} {rs : List Int} (h : ∀ (i : Nat) (x : Item), l[i]? = some x → x.parts.length ≤ 3 ∧ ∀ p ∈ x.parts, 0 ≤ p.many ∧ p.many ≤ 6) (hr : ∀ (i : Nat) r, rs[i]? = some r → 0 ≤ r ∧ r ≤ 9999999) (j : Nat) :
    ∀ k : Nat, 0 ≤ upS l rs j k ∧ upS l rs j k ≤ 179999982 * k
  | 0 => by simp [upS]
  | k + 1 => by
    have a := upS_range h hr j k
    have b := conAt_range h hr j k
    rw [upS_succ]
    omega

theorem upS_mono {l : List Item} {rs : List Int} (h : ∀ (i : Nat) (x : Item), l[i]? = some x → x.parts.length ≤ 3 ∧ ∀ p ∈ x.parts, 0 ≤ p.many ∧ p.many ≤ 6) (hr : ∀ (i : Nat) r, rs[i]? = some r → 0 ≤ r ∧ r ≤ 9999999) (j a : Nat) :
    ∀ b : Nat, a ≤ b → upS l rs j a ≤ upS l rs j b
  | 0, hb => by rw [show a = 0 by omega]; exact Int.le_refl _
  | b + 1, hb => by
    by_cases e : a = b + 1
    · rw [e]; exact Int.le_refl _
    · have := upS_mono h hr j a b (by omega)
      have c := conAt_range h hr j b
      rw [upS_succ]
      omega
theorem conTo_most {ps : List Part} {r B : Int} (hp : ∀ p ∈ ps, 0 ≤ p.many ∧ p.many ≤ 6) (k0 : 0 ≤ r) (k1 : r ≤ B) (j : Nat) : ∀ k : Nat, 0 ≤ conTo ps r j k ∧ conTo ps r j k ≤ 6 * B * k
  | 0 => by simp [conTo]
  | k + 1 => by
    have a := conTo_most hp k0 k1 j k
    have b := getD_parts hp k
    have c : 0 ≤ (ps.getD k ⟨0, 0⟩).many * r ∧ (ps.getD k ⟨0, 0⟩).many * r ≤ 6 * B := ⟨Int.mul_nonneg b.1 k0, Int.mul_le_mul b.2 k1 k0 (by omega)⟩
    rw [conTo_succ]
    have e : 6 * B * ((k + 1 : Nat) : Int) = 6 * B * k + 6 * B := by rw [Int.natCast_add, Int.mul_add]; simp
    rw [e]
    split <;> omega

/-! ### the call's own map of numbers -/
theorem keys3 : Maps.Keyed Tryd.prog 3 := Maps.int_keyed Tryd.underlying3
set_option maxRecDepth 100000 in
theorem zero3 (w : World) : (zeroValue 3).run Tryd.prog w = .ok (.int .i64 0) w := by kernel_rfl

/-- Block b is a map of at most n entries that gives f j for each j from 0 on. -/
def MapIs (w : World) (b n : Nat) (f : Nat → Int) : Prop :=
  ∃ D : DataW Unit, w.ownsMap Tryd.prog 3 (plainElem Tryd.prog 3) b n D ∧ (∃ es, D = .map es) ∧ ∀ j : Nat, D.atKey (.int .i64 j) (.lit (.int .i64 0)) = .lit (.int .i64 (f j))

theorem MapIs.made (w : World) : MapIs (w.alloc (.map #[] 0)) w.heap.size 0 (fun _ => 0) := ⟨.map [], World.ownsMap_made _ _ _ _, ⟨[], rfl⟩, fun _ => rfl⟩

theorem MapIs.lt {w : World} {b n : Nat} {f : Nat → Int} (h : MapIs w b n f) : b < w.heap.size := by
  obtain ⟨D, h, _⟩ := h; exact h.lt

theorem MapIs.below {w w' : World} {b n : Nat} {f : Nat → Int} (h : MapIs w b n f) (hb : Below w.heap.size w w') : MapIs w' b n f := by
  have hlt := h.lt
  obtain ⟨D, ⟨es, clock, h1, r⟩, h2⟩ := h
  exact ⟨D, ⟨es, clock, (hb.block b hlt).trans h1, r⟩, h2⟩

theorem MapIs.drew {w : World} {b n : Nat} {f : Nat → Int} (h : MapIs w b n f) : MapIs w.drew b n f := h

theorem MapIs.congr {w : World} {b n : Nat} {f g : Nat → Int} (h : MapIs w b n f) (he : ∀ j, f j = g j) : MapIs w b n g := by
  obtain ⟨D, h1, h2, h3⟩ := h
  exact ⟨D, h1, h2, fun j => by rw [h3 j, he j]⟩

theorem MapIs.mono {w : World} {b n n' : Nat} {f : Nat → Int} (h : MapIs w b n f) (hn : n ≤ n') : MapIs w b n' f := by
  obtain ⟨D, h1, h2, h3⟩ := h
  exact ⟨D, h1.mono hn, h2, h3⟩

theorem wf_nat {j : Nat} (hj : j < 9223372036854775808) : (Lit.int .i64 (j : Int)).wf = true := WalkArith.wf_i64 (by omega)

theorem MapIs.put {w' : World} {b n : Nat} {f : Nat → Int} {D : DataW Unit} (h2 : ∃ es, D = .map es) (h3 : ∀ j : Nat, D.atKey (.int .i64 j) (.lit (.int .i64 0)) = .lit (.int .i64 (f j))) {k : Nat} {v : Int} (hown : w'.ownsMap Tryd.prog 3 (plainElem Tryd.prog 3) b n (D.put (.int .i64 k) (.lit (.int .i64 v)))) :
    MapIs w' b n (fun j => if j = k then v else f j) := by
  refine ⟨_, hown, Maps.IsMap.put h2 _ _, fun j => ?_⟩
  show _ = DataW.lit (Lit.int .i64 (if j = k then v else f j))
  by_cases e : j = k
  · subst e
    rw [if_pos rfl]
    exact Maps.atKey_put_same h2 (by simp [WideAt.IsKeyLit]) _ _
  · rw [if_neg e, Maps.atKey_put_other (fun h => e (by injection h with _ h; omega)), h3 j]

theorem ownsB {w w' : World} {b n : Nat} {D : DataW Unit} (h : w.ownsMap Tryd.prog 3 (plainElem Tryd.prog 3) b n D) (hb : Below w.heap.size w w') : w'.ownsMap Tryd.prog 3 (plainElem Tryd.prog 3) b n D := by
  have hlt := h.lt
  obtain ⟨es, clock, h1, r⟩ := h
  exact ⟨es, clock, (hb.block b hlt).trans h1, r⟩

theorem look_eq {D : DataW Unit} {f : Nat → Int} (h3 : ∀ j : Nat, D.atKey (.int .i64 j) (.lit (.int .i64 0)) = .lit (.int .i64 (f j))) {o : Nat} {c : Int} (hat : D.atKey (.int .i64 o) (.lit (.int .i64 0)) = .lit (.int .i64 c)) : c = f o := by
  rw [h3 o] at hat
  injection hat with hat
  injection hat with _ hat
  exact hat.symm

theorem mul6_range {y r B : Int} (h0 : 0 ≤ y) (h1 : y ≤ 6) (k0 : 0 ≤ r) (k1 : r ≤ B) : 0 ≤ r * y ∧ r * y ≤ 6 * B := by
  rw [Int.mul_comm]
  exact ⟨Int.mul_nonneg h0 k0, Int.mul_le_mul h1 k1 k0 (by omega)⟩

set_option maxRecDepth 100000 in
set_option maxHeartbeats 400000 in
theorem l1Amounts_any (A A' : Option Addr) (c c' n : Nat) (xs : List Int) (w : World) (h1 : IntsAt w A' xs) (hl : xs.length ≤ 1048576) :
    Calls Tryd.prog 65 #[.slice A n c, .slice A' xs.length c'] w fun e w' => e = .returned (.bool (decide ((xs.length : Int) = n) && rangeOk 50 xs)) ∧ w = w' := by
  go_enter Tryd.func65, Tryd.ntmps65
  go_wp2_with fail
  go_loopw [5] (fun i wr => ∃ k : Nat, k ≤ xs.length ∧ i = .int .i64 k ∧ Hid (rangeOk 50 xs = rangeOk 50 (xs.drop k)) ∧ wr = w) (fun i _ => xs.length - (intOf i).toNat)
  case atStart => exact ⟨0, Nat.zero_le _, rfl, hide rfl, rfl⟩
  case round =>
    obtain ⟨k, hk, rfl, HG, rfl⟩ := hrel
    by_cases hlt : k < xs.length
    · obtain ⟨b, off, rfl, hbl, hc1⟩ := h1 k xs[k] (List.getElem?_eq_getElem hlt)
      have HD : Hid (xs.drop k = xs[k] :: xs.drop (k + 1)) := hide (List.drop_eq_getElem_cons hlt)
      generalize xs[k] = p at *
      have hz : (0 : Int) ≤ k := by omega
      have hz2 : (k : Int) < xs.length := by omega
      cases hp : inR p 0 50 with
      | false =>
        have HP := hide hp
        have H3 : Hid (rangeOk 50 xs = false) := hide (by rw [HG.out, HD.out]; unfold rangeOk; rw [List.all_cons, hp]; rfl)
        clear hp
        go_wp2_with fail
        refine (l1In_is _ _ _ _ HP _).mono ?_
        rintro e w' ⟨rfl, rfl⟩
        go_wp2_with fail
        go_ret
        exact ⟨by rw [H3.out, Bool.and_false]; rfl, rfl⟩
      | true =>
        have HP := hide hp
        have H3 : Hid (rangeOk 50 xs = rangeOk 50 (xs.drop (k + 1))) := hide (by rw [HG.out, HD.out]; unfold rangeOk; rw [List.all_cons, hp]; rfl)
        clear hp
        go_wp2_with fail
        refine (l1In_is _ _ _ _ HP _).mono ?_
        rintro e w' ⟨rfl, rfl⟩
        go_wp2_with fail
        go_roundw
        case rel => exact ⟨k + 1, hlt, by go_num, H3, trivial⟩
        case measure => simp [intOf]; omega
    · have H3 : Hid (rangeOk 50 xs = true) := hide (by rw [HG.out, List.drop_of_length_le (by omega)]; rfl)
      by_cases he : (xs.length : Int) = n
      · have HR : Hid ((decide ((xs.length : Int) = n) && rangeOk 50 xs) = true) := by rw [decide_eq_true he, H3.out]; exact hide rfl
        have hb : ((xs.length : Int) == n) = true := by simp [he]
        clear he
        go_wp2_with fail
        go_ret
        exact ⟨by rw [HR.out]; rfl, rfl⟩
      · have HR : Hid ((decide ((xs.length : Int) = n) && rangeOk 50 xs) = false) := by rw [decide_eq_false he]; exact hide rfl
        have hb : ((xs.length : Int) == n) = false := by simp [he]
        clear he
        go_wp2_with fail
        go_ret
        exact ⟨by rw [HR.out]; rfl, rfl⟩

def amtOk (l : List Item) (xs : List Int) : Bool := decide ((xs.length : Int) = l.length) && rangeOk 50 xs
def amountsOk (l : List Item) (want stock : List Int) : Bool := itemsOk l && (amtOk l want && amtOk l stock)

theorem amtOk_at {l : List Item} {xs : List Int} (h : amtOk l xs = true) : xs.length = l.length ∧ rangeOk 50 xs = true := by
  unfold amtOk at h
  simp only [Bool.and_eq_true, decide_eq_true_eq] at h
  exact ⟨by omega, h.2⟩

theorem amountsOk_at {l : List Item} {want stock : List Int} (h : amountsOk l want stock = true) : itemsOk l = true ∧ (want.length = l.length ∧ rangeOk 50 want = true) ∧ (stock.length = l.length ∧ rangeOk 50 stock = true) := by
  unfold amountsOk at h
  simp only [Bool.and_eq_true] at h
  exact ⟨h.1, amtOk_at h.2.1, amtOk_at h.2.2⟩

end Go.Proofs.YtmepnilnlpoodaaDoor
