/- Payments settle what is owed: contracts of PaysOk, of the program and of the reference model; copies of slices; the set of those who are open.
   Conditions: lists have at most 1048576 elements. -/
import Derived.Test.YtgagfaajilbmmaaDoorBills
import Derived.Test.YtgagfaajilbmmaaDoorPays
import Derived.Test.YtgagfaajilbmmaaDoorSpread0
import Derived.Test.YtgagfaajilbmmaaDoorTab
import Derived.Test.YtgagfaajilbmmaaDoorUses
namespace Go.Proofs.YtgagfaajilbmmaaDoor
open Go.RowKit Go.ChangeShapes Go.WideShapes Go.ChangeAt Go.Deep

theorem pays_news {W : World} {ad : Addr} {xs : List Pay} (hA : PaysAt W (some ad) xs) : ∀ j u, (payCells xs)[j]? = some u → W.cell? (ad.add j) = some u := by
  intro j u hu
  have hj : j < xs.length * 3 := by have := (List.getElem?_eq_some_iff.1 hu).1; rwa [payCells_len] at this
  have hx := List.getElem?_eq_getElem (show j / 3 < xs.length by omega)
  obtain ⟨b, off, e, _, h1, h2, h3⟩ := hA _ _ hx
  injection e with e
  subst e
  have hc := payCells_at hx
  rw [add_plain]
  rcases (by omega : j = j / 3 * 3 ∨ j = j / 3 * 3 + 1 ∨ j = j / 3 * 3 + 2) with e | e | e
  · rw [e] at hu ⊢
    rw [hc.1] at hu
    rw [h1, hu]
  · rw [e] at hu ⊢
    rw [hc.2.1] at hu
    rw [show off + (j / 3 * 3 + 1) = off + j / 3 * 3 + 1 from by omega, h2, hu]
  · rw [e] at hu ⊢
    rw [hc.2.2] at hu
    rw [show off + (j / 3 * 3 + 2) = off + j / 3 * 3 + 2 from by omega, h3, hu]

theorem payCells_one {xs : List Pay} : ∀ u ∈ payCells xs, u.oneCell' = true := by
  intro u hu
  obtain ⟨p, _, h⟩ := List.mem_flatMap.1 hu
  simp only [List.mem_cons, List.not_mem_nil, or_false] at h
  rcases h with rfl | rfl | rfl <;> rfl

theorem wp_spread_pay {W : World} {o : Oper} {a : Act} {K : Act → World → Prop} {Q : Exit → Act → World → Prop} (s x : Operand)
    (ho : o.op = .call { callee := .builtin .append, args := #[s, x], argTypes := #[55, 55] }) (lo : Nat) (v : Value) (ls : List Pay) (hs : a.eval s = v) (hown : PaySl W lo v ls) (hv : v ≠ .slice none 0 0)
    (ad : Addr) (m c : Nat) (xs : List Pay) (hm : xs.length = m) (hx : a.eval x = .slice (some ad) m c) (hA : PaysAt W (some ad) xs) (hn : ls.length + m ≤ 1048576) (hlo : lo ≤ W.heap.size)
    (h : ∀ g cap w', PaySl w' lo (.slice (some ⟨g, 0, none⟩) (ls.length + m) cap) (ls ++ xs) → W.grownBy w' v.ownBlock → K (a.put o.dst (.slice (some ⟨g, 0, none⟩) (ls.length + m) cap)) w') : o.wp Tryd.prog a W K Q := by
  obtain ⟨i0, hi, hz0, hz1, hz2⟩ := info_parts infoPay
  subst hm
  refine wp_spread s x 55 ho lo 65 i0 _ 3 24 Tryd.underlying55 hi hz0 hz1 hz2 rfl (by decide) v ls.length (payCells ls) hs hown hv ad xs.length c (payCells xs) hx (payCells_len xs) (pays_news hA) payCells_one (by unfold maxLen; omega) (by omega) hlo ?_
  intro g cap w' h1 h2
  refine h g cap w' ?_ h2
  unfold PaySl
  rw [List.length_append]
  rw [show payCells (ls ++ xs) = payCells ls ++ payCells xs from by simp [payCells]]
  exact h1

theorem wpList_spread_pay {W : World} {ops : Array Oper} {rest : List Oper} {o : Oper} {a : Act} {Q : Exit → Act → World → Prop} (hgd : o.guard = none) (s x : Operand)
    (ho : o.op = .call { callee := .builtin .append, args := #[s, x], argTypes := #[55, 55] }) (lo : Nat) (v : Value) (ls : List Pay) (hs : a.eval s = v) (hown : PaySl W lo v ls) (hv : v ≠ .slice none 0 0)
    (ad : Addr) (m c : Nat) (xs : List Pay) (hm : xs.length = m) (hx : a.eval x = .slice (some ad) m c) (hA : PaysAt W (some ad) xs) (hn : ls.length + m ≤ 1048576) (hlo : lo ≤ W.heap.size)
    (h : ∀ g cap w', PaySl w' lo (.slice (some ⟨g, 0, none⟩) (ls.length + m) cap) (ls ++ xs) → W.grownBy w' v.ownBlock → wpList Tryd.prog ops Q rest (a.put o.dst (.slice (some ⟨g, 0, none⟩) (ls.length + m) cap)) w') : wpList Tryd.prog ops Q (o :: rest) a W :=
  wpList_plain hgd fun _ hK => wp_spread_pay s x ho lo v ls hs hown hv ad m c xs hm hx hA hn hlo fun g cap w' h2 h3 => hK _ _ (h g cap w' h2 h3)

theorem step_spread_pay {W : World} {ops : Array Oper} {o : Oper} {a : Act} {K : Act → World → Prop} {Q : Exit → Act → World → Prop} {E : Prop} (hgd : o.guard = none) (s x : Operand)
    (ho : o.op = .call { callee := .builtin .append, args := #[s, x], argTypes := #[55, 55] }) (lo : Nat) (v : Value) (ls : List Pay) (hs : a.eval s = v) (hown : PaySl W lo v ls) (hv : v ≠ .slice none 0 0)
    (ad : Addr) (m c : Nat) (xs : List Pay) (hm : xs.length = m) (hx : a.eval x = .slice (some ad) m c) (hA : PaysAt W (some ad) xs) (hn : ls.length + m ≤ 1048576) (hlo : lo ≤ W.heap.size)
    (h : ∀ g cap w', PaySl w' lo (.slice (some ⟨g, 0, none⟩) (ls.length + m) cap) (ls ++ xs) → W.grownBy w' v.ownBlock → K (a.put o.dst (.slice (some ⟨g, 0, none⟩) (ls.length + m) cap)) w') :
    if Region.wanted o (yielded ops a.tmps) = true then Oper.wp Tryd.prog o a W K Q else E := by
  have hw : Region.wanted o (yielded ops a.tmps) = true := by simp [Region.wanted, hgd]
  rw [if_pos hw]
  exact wp_spread_pay s x ho lo v ls hs hown hv ad m c xs hm hx hA hn hlo h

set_option maxRecDepth 100000 in
set_option maxHeartbeats 400000 in
theorem clone_any (A : Addr) (c : Nat) (xs : List Int) (w : World) (hA : IntsAt w (some A) xs) (hl : xs.length ≤ 1048576) :
    Calls Tryd.prog 83 #[.slice (some A) xs.length c] w fun e w' => ∃ B d, e = .returned (.slice (some B) xs.length d) ∧ IntSl w' w.heap.size (.slice (some B) xs.length d) xs ∧ Below w.heap.size w w' := by
  have hO : IntSl (w.alloc (.cells #[] 3)) w.heap.size (.slice (some ⟨w.heap.size, 0, none⟩) 0 0) [] := World.ownsRow_lit w #[] 0 (Nat.le_refl _) (by unfold maxLen; omega) rfl
  have HO := hide hO
  have HA := hide (hA.below (w' := w.alloc (.cells #[] 3)) (by go_grown))
  have he : ∀ w : World, (binOp .eql 24 (.slice (some A) xs.length c) (.slice none 0 0)).run Tryd.prog w = .ok (.bool false) w := fun _ => rfl
  clear hO hA
  go_enter Tryd.func83, Tryd.ntmps83
  go_wp2_with (at_builtin; refine wpList_spread_int rfl _ _ rfl w.heap.size (.slice (some ⟨w.heap.size, 0, none⟩) 0 0) [] rfl HO.out (by simp) A xs.length c xs rfl rfl HA.out (by simp; omega) (by simp) ?_; intro g cap w1 hown hgrow)
  have hb : Below w.heap.size w w1 := ((Below.refl _ w).alloc (Nat.le_refl _) _).grown hgrow (by simp) (by intro k hk; simp [Value.ownBlock] at hk; omega)
  simp only [List.length_nil, Nat.zero_add, List.nil_append] at hown
  go_wp2_with fail
  refine bodyPost_ret (results_tmp rfl _ _ _) rfl ⟨_, _, by simp, hown, hb⟩

def payOk (p : Pay) (n : Int) : Bool := inR p.frm 0 (n - 1) && (inR p.tow 0 (n - 1) && (p.frm != p.tow && inR p.sum 1 9999))
def carry (p : Pay) (xs : List Int) : List Int :=
  (xs.set p.frm.toNat (wrap64 (xs.getD p.frm.toNat 0 + p.sum))).set p.tow.toNat (wrap64 (xs.getD p.tow.toNat 0 - p.sum))
def paysGo : List Pay → List Int → Bool
  | [], xs => xs.all (· == 0)
  | p :: r, xs => payOk p xs.length && paysGo r (carry p xs)
def paysOkL (owed : List Int) (ls : List Pay) : Bool := owedOk owed && paysGo ls owed

theorem carry_len (p : Pay) (xs : List Int) : (carry p xs).length = xs.length := by simp [carry]

theorem payOk_parts {p : Pay} {n : Nat} (h : payOk p n = true) : ∃ f t : Nat, p.frm = f ∧ p.tow = t ∧ f < n ∧ t < n ∧ ¬ t = f ∧ 1 ≤ p.sum ∧ p.sum ≤ 9999 := by
  unfold payOk at h
  simp only [Bool.and_eq_true, inR_iff, bne_iff_ne, ne_eq] at h
  refine ⟨p.frm.toNat, p.tow.toNat, ?_⟩
  omega

set_option maxHeartbeats 800000 in
theorem payFits_any (p : Pay) (n : Nat) (w : World) (hn : n ≤ 1048576) :
    Calls Tryd.prog 84 #[.agg #[.int .i64 p.frm, .int .i64 p.tow, .int .i64 p.sum], .int .i64 (n : Int)] w fun e w' => e = .returned (.bool (payOk p n)) ∧ Below w.heap.size w w' := by
  obtain ⟨a, b, d⟩ := p
  show Calls Tryd.prog 84 #[.agg #[.int .i64 a, .int .i64 b, .int .i64 d], .int .i64 (n : Int)] w _
  cases h1 : inR a 0 ((n : Int) - 1) with
  | false =>
    have HP : Hid (payOk ⟨a, b, d⟩ n = false) := hide (by unfold payOk; rw [h1]; rfl)
    have H1 := hide h1
    clear h1
    go_enter Tryd.func84, Tryd.ntmps84
    go_wp2_with fail
    refine (inRange_is _ _ _ _ H1 _).mono ?_
    rintro e w1 ⟨rfl, rfl⟩
    go_wp2_with fail
    go_ret
    exact ⟨by rw [HP.out]; rfl, by go_grown⟩
  | true =>
    cases h2 : inR b 0 ((n : Int) - 1) with
    | false =>
      have HP : Hid (payOk ⟨a, b, d⟩ n = false) := hide (by unfold payOk; rw [h1, h2]; rfl)
      have H1 := hide h1
      have H2 := hide h2
      clear h1 h2
      go_enter Tryd.func84, Tryd.ntmps84
      go_wp2_with fail
      refine (inRange_is _ _ _ _ H1 _).mono ?_
      rintro e w1 ⟨rfl, rfl⟩
      go_wp2_with fail
      refine (inRange_is _ _ _ _ H2 _).mono ?_
      rintro e w1 ⟨rfl, rfl⟩
      go_wp2_with fail
      go_ret
      exact ⟨by rw [HP.out]; rfl, by go_grown⟩
    | true =>
      cases h3 : (a != b) with
      | false =>
        have HP : Hid (payOk ⟨a, b, d⟩ n = false) := hide (by unfold payOk; simp only; rw [h1, h2, h3]; rfl)
        have H1 := hide h1
        have H2 := hide h2
        clear h1 h2
        go_enter Tryd.func84, Tryd.ntmps84
        go_wp2_with fail
        refine (inRange_is _ _ _ _ H1 _).mono ?_
        rintro e w1 ⟨rfl, rfl⟩
        go_wp2_with fail
        refine (inRange_is _ _ _ _ H2 _).mono ?_
        rintro e w1 ⟨rfl, rfl⟩
        go_wp2_with fail
        go_ret
        exact ⟨by rw [HP.out]; rfl, by go_grown⟩
      | true =>
        cases h4 : inR d 1 9999 with
        | false =>
          have HP : Hid (payOk ⟨a, b, d⟩ n = false) := hide (by unfold payOk; simp only; rw [h1, h2, h3, h4]; rfl)
          have H1 := hide h1
          have H2 := hide h2
          have H4 := hide h4
          clear h1 h2 h4
          go_enter Tryd.func84, Tryd.ntmps84
          go_wp2_with fail
          refine (inRange_is _ _ _ _ H1 _).mono ?_
          rintro e w1 ⟨rfl, rfl⟩
          go_wp2_with fail
          refine (inRange_is _ _ _ _ H2 _).mono ?_
          rintro e w1 ⟨rfl, rfl⟩
          go_wp2_with fail
          refine (inRange_is _ _ _ _ H4 _).mono ?_
          rintro e w1 ⟨rfl, rfl⟩
          go_wp2_with fail
          go_ret
          exact ⟨by rw [HP.out]; rfl, by go_grown⟩
        | true =>
          have HP : Hid (payOk ⟨a, b, d⟩ n = true) := hide (by unfold payOk; simp only; rw [h1, h2, h3, h4]; rfl)
          have H1 := hide h1
          have H2 := hide h2
          have H4 := hide h4
          clear h1 h2 h4
          go_enter Tryd.func84, Tryd.ntmps84
          go_wp2_with fail
          refine (inRange_is _ _ _ _ H1 _).mono ?_
          rintro e w1 ⟨rfl, rfl⟩
          go_wp2_with fail
          refine (inRange_is _ _ _ _ H2 _).mono ?_
          rintro e w1 ⟨rfl, rfl⟩
          go_wp2_with fail
          refine (inRange_is _ _ _ _ H4 _).mono ?_
          rintro e w1 ⟨rfl, rfl⟩
          go_wp2_with fail
          go_ret
          exact ⟨by rw [HP.out]; rfl, by go_grown⟩

theorem carry_world0 {w : World} {lo g n cap : Nat} {xs : List Int} {f t : Nat} {d x y : Int} (h : IntSl w lo (.slice (some ⟨g, 0, none⟩) n cap) xs) (hx : xs[f]? = some x) (hy : xs[t]? = some y) (o : Obj) :
    IntSl (((w.setCell ⟨g, f, none⟩ (.int .i64 (wrap64 (x + d)))).setCell ⟨g, t, none⟩ (.int .i64 (wrap64 (y - d)))).alloc o) lo (.slice (some ⟨g, 0, none⟩) n cap) (carry ⟨f, t, d⟩ xs) ∧
    w.grownBy (((w.setCell ⟨g, f, none⟩ (.int .i64 (wrap64 (x + d)))).setCell ⟨g, t, none⟩ (.int .i64 (wrap64 (y - d)))).alloc o) (some g) := by
  have HC : carry ⟨f, t, d⟩ xs = (xs.set f (wrap64 (x + d))).set t (wrap64 (y - d)) := by
    unfold carry
    simp only [Int.toNat_natCast]
    rw [show xs.getD f 0 = x from by simp [List.getD, hx], show xs.getD t 0 = y from by simp [List.getD, hy]]
  have s1 := IntSl.store h f (wrap64 (x + d))
  have g1 := IntSl.grownSet h f (wrap64 (x + d))
  have s2 := IntSl.store s1 t (wrap64 (y - d))
  have g2 := IntSl.grownSet s1 t (wrap64 (y - d))
  exact ⟨by rw [HC]; exact World.ownsRow.alloc s2 _, (g1.trans g2).trans (World.grownBy_alloc _ o _)⟩

/-- The world behind a payment that is carried out, its box among it. -/
theorem carry_world {w : World} {lo g n cap : Nat} {xs : List Int} {f t : Nat} {d x y : Int} (h : IntSl w lo (.slice (some ⟨g, 0, none⟩) n cap) xs) (hx : xs[f]? = some x) (hy : xs[t]? = some y) (o : Obj) :
    IntSl ((((w.setCell ⟨g, f, none⟩ (.int .i64 (wrap64 (x + d)))).setCell ⟨g, t, none⟩ (.int .i64 (wrap64 (y - d)))).alloc o).drew.drew) lo (.slice (some ⟨g, 0, none⟩) n cap) (carry ⟨f, t, d⟩ xs) ∧
    w.grownBy ((((w.setCell ⟨g, f, none⟩ (.int .i64 (wrap64 (x + d)))).setCell ⟨g, t, none⟩ (.int .i64 (wrap64 (y - d)))).alloc o).drew.drew) (some g) := by
  have HC : carry ⟨f, t, d⟩ xs = (xs.set f (wrap64 (x + d))).set t (wrap64 (y - d)) := by
    unfold carry
    simp only [Int.toNat_natCast]
    rw [show xs.getD f 0 = x from by simp [List.getD, hx], show xs.getD t 0 = y from by simp [List.getD, hy]]
  have s1 := IntSl.store h f (wrap64 (x + d))
  have g1 := IntSl.grownSet h f (wrap64 (x + d))
  have s2 := IntSl.store s1 t (wrap64 (y - d))
  have g2 := IntSl.grownSet s1 t (wrap64 (y - d))
  have g3 := (g1.trans g2).trans (World.grownBy_alloc _ o _)
  exact ⟨by rw [HC]; exact IntSl.drew (IntSl.drew (World.ownsRow.alloc s2 _)), ⟨g3.os, g3.tape, g3.output, g3.size, g3.block⟩⟩

set_option maxRecDepth 100000 in
set_option maxHeartbeats 1000000 in
theorem carryOut_any (lo g cap n : Nat) (xs : List Int) (p : Pay) (w : World) (hn : xs.length = n) (HP : Hid (payOk p n = true)) (h : IntSl w lo (.slice (some ⟨g, 0, none⟩) n cap) xs) :
    Calls Tryd.prog 85 #[.agg #[.int .i64 p.frm, .int .i64 p.tow, .int .i64 p.sum], .slice (some ⟨g, 0, none⟩) n cap] w fun e w' => e = .returned (.tuple #[]) ∧ IntSl w' lo (.slice (some ⟨g, 0, none⟩) n cap) (carry p xs) ∧ w.grownBy w' (some g) := by
  obtain ⟨a, b, d⟩ := p
  obtain ⟨f, t, hf, ht, hfn, htn, htf, hd0, hd1⟩ := payOk_parts HP.out
  simp only at hf ht hd0 hd1
  subst hf ht hn
  show Calls Tryd.prog 85 #[.agg #[.int .i64 f, .int .i64 t, .int .i64 d], .slice (some ⟨g, 0, none⟩) xs.length cap] w _
  have hgl := (World.ownsRow.lt h g rfl).2
  have hcf := h.cellAt (List.getElem?_eq_getElem hfn)
  have hct := h.cellAt (List.getElem?_eq_getElem htn)
  have hff := h.frozenAt f
  have hft := h.frozenAt t
  have HW := hide (carry_world (d := d) h (List.getElem?_eq_getElem hfn) (List.getElem?_eq_getElem htn) (.cells #[.int .i64 f, .int .i64 t, .int .i64 d] 65))
  generalize xs[f] = x at *
  generalize xs[t] = y at *
  have hz1 : (0 : Int) ≤ f := by omega
  have hz2 : (f : Int) < xs.length := by omega
  have hz3 : (0 : Int) ≤ t := by omega
  have hz4 : (t : Int) < xs.length := by omega
  have hgne : ¬ g = w.heap.size := by omega
  clear h
  go_enter Tryd.func85, Tryd.ntmps85
  go_wp2_with fail
  refine still_tail_drew 9 (by kernel_rfl) (by kernel_rfl) ?_
  simp only [List.take_succ_cons, List.take_zero, List.drop_succ_cons, List.drop_zero]
  repeat still_step
  refine wpStill_nil ?_
  go_wp2_with fail
  refine still_tail_drew 9 (by kernel_rfl) (by kernel_rfl) ?_
  simp only [List.take_succ_cons, List.take_zero, List.drop_succ_cons, List.drop_zero]
  repeat still_step
  refine wpStill_nil ?_
  go_wp2_with fail
  go_end0
  exact ⟨rfl, HW.out.1, HW.out.2⟩
end Go.Proofs.YtgagfaajilbmmaaDoor
