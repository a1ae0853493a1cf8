/- Contracts of what PlanOk and PlanLeast call: amounts, what is made, the map of what is needed, of the program, and what is left by a plan, of the reference model.
   Conditions: the bounds in each statement. -/
import Derived.Test.YtjegebnnlomcpaaDoorMark
import Derived.Maps.OwnOps
import Derived.Maps.Views
namespace Go.Proofs.YtjegebnnlomcpaaDoor
open Go.RowKit

def conTo (ps : List Part) (r : Int) (j : Nat) : Nat → Int
  | 0 => 0
  | k + 1 => conTo ps r j k + (if (ps.getD k ⟨0, 0⟩).of = (j : Int) then (ps.getD k ⟨0, 0⟩).many * r else 0)

theorem conTo_succ (ps : List Part) (r : Int) (j k : Nat) : conTo ps r j (k + 1) = conTo ps r j k + (if (ps.getD k ⟨0, 0⟩).of = (j : Int) then (ps.getD k ⟨0, 0⟩).many * r else 0) := rfl

theorem many_range {m r : Int} (h0 : 0 ≤ m) (h1 : m ≤ 6) (k0 : 0 ≤ r) (k1 : r ≤ 9999999) : 0 ≤ m * r ∧ m * r ≤ 59999994 :=
  ⟨Int.mul_nonneg h0 k0, Int.le_trans (Int.mul_le_mul h1 k1 k0 (by omega)) (by omega)⟩

theorem getD_parts {ps : List Part} (hp : ∀ p ∈ ps, 0 ≤ p.many ∧ p.many ≤ 6) (k : Nat) : 0 ≤ (ps.getD k ⟨0, 0⟩).many ∧ (ps.getD k ⟨0, 0⟩).many ≤ 6 := by
  by_cases h : k < ps.length
  · have := hp ps[k] (List.getElem_mem h)
    simpa [List.getD_eq_getElem?_getD, h] using this
  · have : ps.getD k ⟨0, 0⟩ = ⟨0, 0⟩ := by simp [List.getD_eq_getElem?_getD, List.getElem?_eq_none (Nat.le_of_not_lt h)]
    rw [this]; simp

theorem conTo_range {ps : List Part} {r : Int} (hp : ∀ p ∈ ps, 0 ≤ p.many ∧ p.many ≤ 6) (k0 : 0 ≤ r) (k1 : r ≤ 9999999) (j : Nat) : ∀ k : Nat, 0 ≤ conTo ps r j k ∧ conTo ps r j k ≤ 59999994 * k
  | 0 => by simp [conTo]
  | k + 1 => by
    have a := conTo_range hp k0 k1 j k
    have b := getD_parts hp k
    have c := many_range b.1 b.2 k0 k1
    rw [conTo_succ]
    split <;> omega

theorem conTo_far {ps : List Part} {r : Int} {j : Nat} (hp : ∀ p ∈ ps, p.of < (j : Int)) : ∀ k : Nat, k ≤ ps.length → conTo ps r j k = 0
  | 0, _ => rfl
  | k + 1, hk => by
    have := hp ps[k] (List.getElem_mem (by omega))
    rw [conTo_succ, conTo_far hp k (by omega), if_neg, Int.add_zero]
    rw [List.getD_eq_getElem?_getD, List.getElem?_eq_getElem (by omega)]
    show ¬ ps[k].of = _
    omega

def nil0 : Item := ⟨0, [], 0⟩

def upS (l : List Item) (rs : List Int) (j : Nat) : Nat → Int
  | 0 => 0
  | k + 1 => upS l rs j k + conTo (l.getD k nil0).parts (rs.getD k 0) j (l.getD k nil0).parts.length

theorem upS_succ (l : List Item) (rs : List Int) (j k : Nat) : upS l rs j (k + 1) = upS l rs j k + conTo (l.getD k nil0).parts (rs.getD k 0) j (l.getD k nil0).parts.length := rfl

def madeI (y r : Int) : Int := if 0 < y then r * y else r

theorem madeI_max {y r : Int} (h : 0 ≤ y) : r * max y 1 = madeI y r := by
  unfold madeI
  split
  · rw [Int.max_eq_left (by omega)]
  · rw [show y = 0 by omega, show max (0 : Int) 1 = 1 from rfl, Int.mul_one]

theorem madeI_range {y r : Int} (h0 : 0 ≤ y) (h1 : y ≤ 6) (k0 : 0 ≤ r) (k1 : r ≤ 9999999) : 0 ≤ madeI y r ∧ madeI y r ≤ 59999994 := by
  unfold madeI
  split
  · rw [Int.mul_comm]; exact many_range h0 h1 k0 k1
  · omega

/-- What is made less what all others need. -/
def leftAt (l : List Item) (want stock rs : List Int) (j : Nat) : Int := stock.getD j 0 + madeI (l.getD j nil0).yield (rs.getD j 0) - want.getD j 0 - upS l rs j l.length

def allTo (P : Nat → Bool) : Nat → Bool
  | 0 => true
  | k + 1 => allTo P k && P k

theorem allTo_succ (P : Nat → Bool) (k : Nat) : allTo P (k + 1) = (allTo P k && P k) := rfl

theorem allTo_false {P : Nat → Bool} {k : Nat} (h : P k = false) : ∀ n, k < n → allTo P n = false
  | 0, hn => absurd hn (by omega)
  | n + 1, hn => by
    rw [allTo_succ]
    by_cases e : k = n
    · subst e; rw [h, Bool.and_false]
    · rw [allTo_false h n (by omega), Bool.false_and]

theorem upS_same {l : List Item} {rs : List Int} {j : Nat} (h : ∀ (i : Nat) (x : Item), l[i]? = some x → ∀ p ∈ x.parts, p.of < (i : Int)) : ∀ k : Nat, k ≤ j + 1 → upS l rs j k = 0
  | 0, _ => rfl
  | k + 1, hk => by
    rw [upS_succ, upS_same h k (by omega), conTo_far _ _ (Nat.le_refl _)]
    · rfl
    · intro p hp
      by_cases hl : k < l.length
      · rw [List.getD_eq_getElem?_getD, List.getElem?_eq_getElem hl] at hp
        have := h k _ (List.getElem?_eq_getElem hl) p hp
        omega
      · rw [List.getD_eq_getElem?_getD, List.getElem?_eq_none (Nat.le_of_not_lt hl)] at hp
        simp [nil0] at hp

theorem conAt_range {l : List Item} {rs : List Int} (h : ∀ (i : Nat) (x : Item), l[i]? = some x → x.parts.length ≤ 3 ∧ ∀ p ∈ x.parts, 0 ≤ p.many ∧ p.many ≤ 6) (hr : ∀ (i : Nat) r, rs[i]? = some r → 0 ≤ r ∧ r ≤ 9999999) (j k : Nat) :
    0 ≤ conTo (l.getD k nil0).parts (rs.getD k 0) j (l.getD k nil0).parts.length ∧ conTo (l.getD k nil0).parts (rs.getD k 0) j (l.getD k nil0).parts.length ≤ 179999982 := by
  by_cases hl : k < l.length
  · obtain ⟨h3, hp⟩ := h k _ (List.getElem?_eq_getElem hl)
    rw [show l.getD k nil0 = l[k] by simp [hl]]
    have hk : 0 ≤ rs.getD k 0 ∧ rs.getD k 0 ≤ 9999999 := by
      by_cases hq : k < rs.length
      · have := hr k _ (List.getElem?_eq_getElem hq)
        simpa [hq] using this
      · rw [List.getD_eq_getElem?_getD, List.getElem?_eq_none (Nat.le_of_not_lt hq)]
        show (0 : Int) ≤ 0 ∧ (0 : Int) ≤ 9999999
        omega
    have := conTo_range hp hk.1 hk.2 j l[k].parts.length
    omega
  · rw [List.getD_eq_getElem?_getD, List.getElem?_eq_none (Nat.le_of_not_lt hl)]
    show (0 : Int) ≤ 0 ∧ (0 : Int) ≤ 179999982
    omega

theorem upS_range {l : List Item} {rs : List Int} (h : ∀ (i : Nat) (x : Item), l[i]? = some x → x.parts.length ≤ 3 ∧ ∀ p ∈ x.parts, 0 ≤ p.many ∧ p.many ≤ 6) (hr : ∀ (i : Nat) r, rs[i]? = some r → 0 ≤ r ∧ r ≤ 9999999) (j : Nat) :
    ∀ k : Nat, 0 ≤ upS l rs j k ∧ upS l rs j k ≤ 179999982 * k
  | 0 => by simp [upS]
  | k + 1 => by
    have a := upS_range h hr j k
    have b := conAt_range h hr j k
    rw [upS_succ]
    omega

theorem upS_mono {l : List Item} {rs : List Int} (h : ∀ (i : Nat) (x : Item), l[i]? = some x → x.parts.length ≤ 3 ∧ ∀ p ∈ x.parts, 0 ≤ p.many ∧ p.many ≤ 6) (hr : ∀ (i : Nat) r, rs[i]? = some r → 0 ≤ r ∧ r ≤ 9999999) (j a : Nat) :
    ∀ b : Nat, a ≤ b → upS l rs j a ≤ upS l rs j b
  | 0, hb => by rw [show a = 0 by omega]; exact Int.le_refl _
  | b + 1, hb => by
    by_cases e : a = b + 1
    · rw [e]; exact Int.le_refl _
    · have := upS_mono h hr j a b (by omega)
      have c := conAt_range h hr j b
      rw [upS_succ]
      omega
theorem conTo_most {ps : List Part} {r B : Int} (hp : ∀ p ∈ ps, 0 ≤ p.many ∧ p.many ≤ 6) (k0 : 0 ≤ r) (k1 : r ≤ B) (j : Nat) : ∀ k : Nat, 0 ≤ conTo ps r j k ∧ conTo ps r j k ≤ 6 * B * k
  | 0 => by simp [conTo]
  | k + 1 => by
    have a := conTo_most hp k0 k1 j k
    have b := getD_parts hp k
    have c : 0 ≤ (ps.getD k ⟨0, 0⟩).many * r ∧ (ps.getD k ⟨0, 0⟩).many * r ≤ 6 * B := ⟨Int.mul_nonneg b.1 k0, Int.mul_le_mul b.2 k1 k0 (by omega)⟩
    rw [conTo_succ]
    have e : 6 * B * ((k + 1 : Nat) : Int) = 6 * B * k + 6 * B := by rw [Int.natCast_add, Int.mul_add]; simp
    rw [e]
    split <;> omega

/-! ### the call's own map of numbers -/
theorem keys3 : Maps.Keyed Tryd.prog 3 := Maps.int_keyed Tryd.underlying3
set_option maxRecDepth 100000 in
theorem zero3 (w : World) : (zeroValue 3).run Tryd.prog w = .ok (.int .i64 0) w := by kernel_rfl

/-- Block b is a map of at most n entries that gives f j for each j from 0 on. -/
def MapIs (w : World) (b n : Nat) (f : Nat → Int) : Prop :=
  ∃ D : DataW Unit, w.ownsMap Tryd.prog 3 (plainElem Tryd.prog 3) b n D ∧ (∃ es, D = .map es) ∧ ∀ j : Nat, D.atKey (.int .i64 j) (.lit (.int .i64 0)) = .lit (.int .i64 (f j))

theorem MapIs.made (w : World) : MapIs (w.alloc (.map #[] 0)) w.heap.size 0 (fun _ => 0) := ⟨.map [], World.ownsMap_made _ _ _ _, ⟨[], rfl⟩, fun _ => rfl⟩

theorem MapIs.lt {w : World} {b n : Nat} {f : Nat → Int} (h : MapIs w b n f) : b < w.heap.size := by
  obtain ⟨D, h, _⟩ := h; exact h.lt

theorem MapIs.below {w w' : World} {b n : Nat} {f : Nat → Int} (h : MapIs w b n f) (hb : Below w.heap.size w w') : MapIs w' b n f := by
  have hlt := h.lt
  obtain ⟨D, ⟨es, clock, h1, r⟩, h2⟩ := h
  exact ⟨D, ⟨es, clock, (hb.block b hlt).trans h1, r⟩, h2⟩

theorem MapIs.drew {w : World} {b n : Nat} {f : Nat → Int} (h : MapIs w b n f) : MapIs w.drew b n f := h

theorem MapIs.congr {w : World} {b n : Nat} {f g : Nat → Int} (h : MapIs w b n f) (he : ∀ j, f j = g j) : MapIs w b n g := by
  obtain ⟨D, h1, h2, h3⟩ := h
  exact ⟨D, h1, h2, fun j => by rw [h3 j, he j]⟩

theorem MapIs.mono {w : World} {b n n' : Nat} {f : Nat → Int} (h : MapIs w b n f) (hn : n ≤ n') : MapIs w b n' f := by
  obtain ⟨D, h1, h2, h3⟩ := h
  exact ⟨D, h1.mono hn, h2, h3⟩

theorem wf_nat {j : Nat} (hj : j < 9223372036854775808) : (Lit.int .i64 (j : Int)).wf = true := WalkArith.wf_i64 (by omega)

set_option maxRecDepth 100000 in
theorem MapIs.look {w : World} {b n : Nat} {f : Nat → Int} (h : MapIs w b n f) (j : Nat) (hj : j < 9223372036854775808) : (Instr.lookup 56 (.map (some b)) (.int .i64 j) false).run Tryd.prog w = .ok (.int .i64 (f j)) w := by
  obtain ⟨D, h1, h2, h3⟩ := h
  obtain ⟨c, hrun, hat, _⟩ := h1.lookup_int keys3 Tryd.underlying56 Tryd.underlying3 (zero3 w) (Maps.keyOf_int_mk Tryd.underlying3 (wf_nat hj))
  rw [h3 j] at hat
  injection hat with hat
  injection hat with _ hat
  rw [hrun, hat]

theorem MapIs.put {w' : World} {b n : Nat} {f : Nat → Int} {D : DataW Unit} (h2 : ∃ es, D = .map es) (h3 : ∀ j : Nat, D.atKey (.int .i64 j) (.lit (.int .i64 0)) = .lit (.int .i64 (f j))) {k : Nat} {v : Int} (hown : w'.ownsMap Tryd.prog 3 (plainElem Tryd.prog 3) b n (D.put (.int .i64 k) (.lit (.int .i64 v)))) :
    MapIs w' b n (fun j => if j = k then v else f j) := by
  refine ⟨_, hown, Maps.IsMap.put h2 _ _, fun j => ?_⟩
  show _ = DataW.lit (Lit.int .i64 (if j = k then v else f j))
  by_cases e : j = k
  · subst e
    rw [if_pos rfl]
    exact Maps.atKey_put_same h2 (by simp [WideAt.IsKeyLit]) _ _
  · rw [if_neg e, Maps.atKey_put_other (fun h => e (by injection h with _ h; omega)), h3 j]

theorem ownsB {w w' : World} {b n : Nat} {D : DataW Unit} (h : w.ownsMap Tryd.prog 3 (plainElem Tryd.prog 3) b n D) (hb : Below w.heap.size w w') : w'.ownsMap Tryd.prog 3 (plainElem Tryd.prog 3) b n D := by
  have hlt := h.lt
  obtain ⟨es, clock, h1, r⟩ := h
  exact ⟨es, clock, (hb.block b hlt).trans h1, r⟩

theorem look_eq {D : DataW Unit} {f : Nat → Int} (h3 : ∀ j : Nat, D.atKey (.int .i64 j) (.lit (.int .i64 0)) = .lit (.int .i64 (f j))) {o : Nat} {c : Int} (hat : D.atKey (.int .i64 o) (.lit (.int .i64 0)) = .lit (.int .i64 c)) : c = f o := by
  rw [h3 o] at hat
  injection hat with hat
  injection hat with _ hat
  exact hat.symm

theorem wpList_put_below {ops : Array Oper} {rest : List Oper} {o : Oper} {a : Act} {Q : Exit → Act → World → Prop} (w0 : World) (B : Nat) (w : World) (hBB : Below B w0 w) (h0 : B ≤ w0.heap.size)
    (hg : o.guard = none) (m x v : Operand) (hop : o.op = Op.mapUpdate 56 m x v) (b n : Nat) (hb : B ≤ b) (D : DataW Unit)
    (hm : a.eval m = .map (some b)) (hown : w.ownsMap Tryd.prog 3 (plainElem Tryd.prog 3) b n D) (hn : n < maxLen) (k val : Int) (hx : a.eval x = .int .i64 k) (hv : a.eval v = .int .i64 val) (hk : (Lit.int .i64 k).wf = true) (hw : (Lit.int .i64 val).wf = true)
    (hK : ∀ w', w'.ownsMap Tryd.prog 3 (plainElem Tryd.prog 3) b (n + 1) (D.put (.int .i64 k) (.lit (.int .i64 val))) → Below B w0 w' → wpList Tryd.prog ops Q rest (a.put o.dst undef) w') :
    wpList Tryd.prog ops Q (o :: rest) a w :=
  wpList_mapUpdate_own w hg m x v 56 hop 3 3 keys3 Tryd.underlying56 _ b n D hm hown hn _ _ _ hx hv (Maps.keyOf_int_mk Tryd.underlying3 hk) _ [] (plainElem_int Tryd.underlying3 hw)
    (fun w' h1 h2 => hK w' h1 (hBB.grown h2 (Nat.le_trans h0 hBB.size) (fun j hj => by cases hj; exact hb)))

theorem mul6_range {y r B : Int} (h0 : 0 ≤ y) (h1 : y ≤ 6) (k0 : 0 ≤ r) (k1 : r ≤ B) : 0 ≤ r * y ∧ r * y ≤ 6 * B := by
  rw [Int.mul_comm]
  exact ⟨Int.mul_nonneg h0 k0, Int.mul_le_mul h1 k1 k0 (by omega)⟩

set_option maxRecDepth 100000 in
set_option maxHeartbeats 400000 in
theorem madeBy_any (A : Option Addr) (c n : Nat) (y m r : Int) (w : World) (h0 : 0 ≤ y) (h1 : y ≤ 6) (k0 : 0 ≤ r) (k1 : r ≤ 3000000000) :
    Calls Tryd.prog 24 #[.agg #[.int .i64 y, .slice A n c, .int .i64 m], .int .i64 r] w fun e w' => e = .returned (.int .i64 (madeI y r)) ∧ Below w.heap.size w w' := by
  by_cases h : 0 < y
  · have HM : Hid (decide (0 < y) = true) := hide (decide_eq_true h)
    have HR : Hid (madeI y r = r * y) := by unfold madeI; rw [if_pos h]; exact hide rfl
    obtain ⟨hm0, hm1⟩ := mul6_range h0 h1 k0 k1
    clear h
    go_enter Tryd.func24, Tryd.ntmps24
    go_wp2_with fail
    refine (isMade_is _ _ _ _ _ _ HM _).mono ?_
    rintro e w' ⟨rfl, hB⟩
    have hc : ∀ o, w'.cell? ⟨w.heap.size, o, none⟩ = _ := fun o => hB.cell (p := ⟨w.heap.size, o, none⟩) (by simp)
    have hb : Below w.heap.size w w' := Below.trans (by go_grown) (hB.mono (by simp))
    go_wp2_with fail
    go_ret
    exact ⟨by rw [HR.out]; rfl, hb⟩
  · have HM : Hid (decide (0 < y) = false) := hide (decide_eq_false h)
    have HR : Hid (madeI y r = r) := by unfold madeI; rw [if_neg h]; exact hide rfl
    clear h
    go_enter Tryd.func24, Tryd.ntmps24
    go_wp2_with fail
    refine (isMade_is _ _ _ _ _ _ HM _).mono ?_
    rintro e w' ⟨rfl, hB⟩
    have hb : Below w.heap.size w w' := Below.trans (by go_grown) (hB.mono (by simp))
    go_wp2_with fail
    go_ret
    exact ⟨by rw [HR.out]; rfl, hb⟩

def amtOk (l : List Item) (xs : List Int) : Bool := decide ((xs.length : Int) = l.length) && rangeOk 50 xs
def amountsOk (l : List Item) (want stock : List Int) : Bool := itemsOk l && (amtOk l want && amtOk l stock)

theorem amtOk_at {l : List Item} {xs : List Int} (h : amtOk l xs = true) : xs.length = l.length ∧ rangeOk 50 xs = true := by
  unfold amtOk at h
  simp only [Bool.and_eq_true, decide_eq_true_eq] at h
  exact ⟨by omega, h.2⟩

theorem amountsOk_at {l : List Item} {want stock : List Int} (h : amountsOk l want stock = true) : itemsOk l = true ∧ (want.length = l.length ∧ rangeOk 50 want = true) ∧ (stock.length = l.length ∧ rangeOk 50 stock = true) := by
  unfold amountsOk at h
  simp only [Bool.and_eq_true] at h
  exact ⟨h.1, amtOk_at h.2.1, amtOk_at h.2.2⟩

set_option maxRecDepth 100000 in
set_option maxHeartbeats 400000 in
theorem amountsFit_any (A A' A'' : Option Addr) (c c' c'' : Nat) (l : List Item) (xs ys : List Int) (w : World) (hA : ItemsAt w A l) (hl : l.length ≤ 1048576) (hp : ∀ x ∈ l, x.parts.length ≤ 1048576)
    (hX : IntsAt w A' xs) (hx : xs.length ≤ 1048576) (hY : IntsAt w A'' ys) (hy : ys.length ≤ 1048576) :
    Calls Tryd.prog 22 #[.slice A l.length c, .slice A' xs.length c', .slice A'' ys.length c''] w fun e w' => e = .returned (.bool (amountsOk l xs ys)) ∧ Below w.heap.size w w' := by
  have HP := hide hp
  clear hp
  cases hI : itemsOk l with
  | false =>
    have HI := hide hI
    have HR : Hid (amountsOk l xs ys = false) := by unfold amountsOk; rw [hI]; exact hide rfl
    clear hI
    go_enter Tryd.func22, Tryd.ntmps22
    go_wp2_with fail
    refine (implItemsValid_any _ _ _ _ hA hl HP.out).mono ?_
    rintro e w1 ⟨rfl, hB1⟩
    rw [HI.out]
    go_wp2_with fail
    go_ret
    exact ⟨by rw [HR.out]; rfl, hB1⟩
  | true =>
    have HI := hide hI
    cases hX1 : amtOk l xs with
    | false =>
      have HX := hide hX1
      have HR : Hid (amountsOk l xs ys = false) := by unfold amountsOk; rw [hI, hX1]; exact hide rfl
      clear hI hX1
      go_enter Tryd.func22, Tryd.ntmps22
      go_wp2_with fail
      refine (implItemsValid_any _ _ _ _ hA hl HP.out).mono ?_
      rintro e w1 ⟨rfl, hB1⟩
      rw [HI.out]
      go_wp2_with fail
      refine (allInRange_any _ _ _ _ _ _ (hX.below hB1) hx).mono ?_
      rintro e w2 ⟨rfl, hB2⟩
      have hb2 := next hB1 hB2
      rw [show (decide ((xs.length : Int) = l.length) && rangeOk 50 xs) = false from HX.out]
      go_wp2_with fail
      go_ret
      exact ⟨by rw [HR.out]; rfl, hb2⟩
    | true =>
      have HX := hide hX1
      have HR : Hid (amountsOk l xs ys = (decide ((ys.length : Int) = l.length) && rangeOk 50 ys)) := by unfold amountsOk; rw [hI, hX1]; exact hide rfl
      clear hI hX1
      go_enter Tryd.func22, Tryd.ntmps22
      go_wp2_with fail
      refine (implItemsValid_any _ _ _ _ hA hl HP.out).mono ?_
      rintro e w1 ⟨rfl, hB1⟩
      rw [HI.out]
      go_wp2_with fail
      refine (allInRange_any _ _ _ _ _ _ (hX.below hB1) hx).mono ?_
      rintro e w2 ⟨rfl, hB2⟩
      have hb2 := next hB1 hB2
      rw [show (decide ((xs.length : Int) = l.length) && rangeOk 50 xs) = true from HX.out]
      go_wp2_with fail
      refine (allInRange_any _ _ _ _ _ _ (hY.below hb2) hy).mono ?_
      rintro e w3 ⟨rfl, hB3⟩
      have hb3 := next hb2 hB3
      go_wp2_with fail
      go_ret
      exact ⟨by rw [HR.out]; rfl, hb3⟩

set_option maxRecDepth 100000 in
set_option maxHeartbeats 1000000 in
theorem addNeed_any (A : Option Addr) (c : Nat) (y m r : Int) (ps : List Part) (b n : Nat) (f : Nat → Int) (w : World) (hA : ∀ w', Below b w w' → PartsAt w' A ps) (hl : ps.length ≤ 3) (hn : n ≤ 1000)
    (hps : ∀ p ∈ ps, 0 ≤ p.of ∧ p.of < 6 ∧ 1 ≤ p.many ∧ p.many ≤ 6) (k0 : 0 ≤ r) (k1 : r ≤ 3000000000) (hf : ∀ j, 0 ≤ f j ∧ f j ≤ 1000000000000) (hM : MapIs w b n f) :
    Calls Tryd.prog 25 #[.map (some b), .agg #[.int .i64 y, .slice A ps.length c, .int .i64 m], .int .i64 r] w fun e w' => e = .returned (.tuple #[]) ∧ MapIs w' b (n + ps.length) (fun j => f j + conTo ps r j ps.length) ∧ Below b w w' := by
  have hblt := hM.lt
  have HPS := hide hps
  have HF := hide hf
  have HA := hide hA
  clear hps hf hA
  go_enter Tryd.func25, Tryd.ntmps25
  go_wp2_with fail
  go_loopw [11] (fun i wr => ∃ k : Nat, k ≤ ps.length ∧ i = .int .i64 k ∧ MapIs wr b (n + k) (fun j => f j + conTo ps r j k) ∧ Below b w wr) (fun i _ => ps.length - (intOf i).toNat)
  case atStart => exact ⟨0, Nat.zero_le _, rfl, (hM.below (by go_grown)).congr (fun j => by simp [conTo]), Below.mono (B := w.heap.size) (by go_grown) (by omega)⟩
  case round =>
    obtain ⟨k, hk, rfl, hMk, hb⟩ := hrel
    have hsz := hb.size
    by_cases hlt : k < ps.length
    · obtain ⟨bb, off, rfl, hbl, hc1, hc2⟩ := (HA.out wr hb) k ps[k] (List.getElem?_eq_getElem hlt)
      have hpp := HPS.out _ (List.getElem_mem hlt)
      have HX : Hid (ps.getD k ⟨0, 0⟩ = ps[k]) := hide (by simp [hlt])
      generalize ps[k] = p at *
      obtain ⟨o, ho⟩ : ∃ o : Nat, p.of = o := ⟨p.of.toNat, by omega⟩
      obtain ⟨hp0, hp1, hp2, hp3⟩ := hpp
      rw [ho] at hc1 hp1
      have hfo := HF.out o
      have hct := conTo_most (ps := ps) (r := r) (B := 3000000000) (fun p hp => ⟨by have := (HPS.out p hp).2.2.1; omega, (HPS.out p hp).2.2.2⟩) k0 k1 o k
      have hq := mul6_range (y := p.many) (r := r) (B := 3000000000) (by omega) hp3 k0 k1
      rw [Int.mul_comm] at hq
      obtain ⟨D, hown, h2, h3⟩ := hMk
      have H3 := hide h3
      obtain ⟨fo, HFO⟩ : ∃ fo, Hid (f o + conTo ps r o k = fo) := ⟨_, hide rfl⟩
      have hfo0 : 0 ≤ fo := by rw [← HFO.out]; omega
      have hfo1 : fo ≤ 2000000000000 := by rw [← HFO.out]; omega
      have hv0 := hq.1
      have hv1 := hq.2
      have hvw : (Lit.int .i64 (fo + p.many * r)).wf = true := WalkArith.wf_i64 (by omega)
      have hkw : (Lit.int .i64 (o : Int)).wf = true := wf_nat (by omega)
      clear hfo hct hq h3
      have hz : (0 : Int) ≤ k := by omega
      have hz2 : (k : Int) < ps.length := by omega
      go_wp2_with (first
        | (at_lookup; refine wpList_lookup_own_int _ rfl _ _ 56 rfl 3 3 .i64 keys3 Tryd.underlying56 Tryd.underlying3 (zero3 _) b (n + k) D rfl (ownsB hown (by go_grown)) _ (.int .i64 (o : Int)) rfl (Maps.keyOf_int_mk Tryd.underlying3 hkw) ?_; intro cc hat hwc; have hcc : cc = fo := (look_eq H3.out hat).trans HFO.out; rw [hcc])
        | (at_mapUpdate; refine wpList_put_below w b _ (hb.trans (Below.mono (B := wr.heap.size) (by go_grown) (by omega))) (by omega) rfl _ _ _ rfl b (n + k) (Nat.le_refl _) D rfl (ownsB hown (by go_grown)) (by unfold maxLen; omega) (o : Int) (fo + p.many * r) rfl rfl hkw hvw ?_; intro w1 hown1 hb1))
      have HN := hide (MapIs.put h2 H3.out hown1)
      go_wp2_with fail
      go_roundw
      case rel =>
        refine ⟨k + 1, hlt, by go_num, HN.out.congr (fun j => ?_), hb1⟩
        rw [conTo_succ, HX.out, ho]
        by_cases e : j = o
        · subst e
          rw [if_pos rfl, if_pos rfl, ← HFO.out]
          omega
        · rw [if_neg e, if_neg (by omega)]
          omega
      case measure => simp [intOf]; omega
    · go_wp2_with fail
      obtain rfl : k = ps.length := by omega
      go_end0
      exact ⟨rfl, hMk, hb⟩
end Go.Proofs.YtjegebnnlomcpaaDoor
