/- FlowBest of the program: two lists of indices, each sorted by its key, one behind the other.
   Conditions: the bounds in each statement. -/
import Derived.Test.YteloapholoechabFlow4
import Derived.Test.YteloapholoechabSortG
import Derived.Test.YteloapholoechabSpreadN
namespace Go.Proofs.Yteloapholoechab
open Go.RowKit Go.ChangeShapes Go.WideShapes Go.ChangeAt Go.Deep

theorem dishes_grownQ {w W : World} {q : Option Nat} {A : Option Addr} {l : List Dish} (h : DishesAt w A l) (hg : w.grownBy W q) (hne : ∀ a, 0 < l.length → A = some a → some a.block ≠ q) : DishesAt W A l := by
  intro i x hx
  obtain ⟨b, off, rfl, hl, hc1, hc2⟩ := h i x hx
  have hb := hne _ (by have := (List.getElem?_eq_some_iff.1 hx).1; omega) rfl
  exact ⟨b, off, rfl, Nat.lt_of_lt_of_le hl hg.size, hg.cell hc1 hb, hg.cell hc2 hb⟩
theorem dishes_grown {w W : World} {g : Nat} {A : Option Addr} {l : List Dish} (h : DishesAt w A l) (hg : w.grownBy W (some g)) (hne : ∀ a, A = some a → a.block ≠ g) : DishesAt W A l :=
  dishes_grownQ h hg (fun a _ ha e => by injection e with e; exact hne a ha e)
theorem IntSl.capF {w : World} {lo n c g : Nat} {l : List Int} (h : IntSl w lo (.slice (some ⟨g, 0, none⟩) n c) l) : l.length = n ∧ n ≤ c := by
  rcases h.2 with ⟨hv, _⟩ | ⟨g', cap, cur, hv, _, _, h1, h2, _⟩
  · cases hv
  · injection hv with e1 e2 e3
    subst e2 e3
    exact ⟨rfl, h1⟩
theorem IntSl.capG {w : World} {lo n c : Nat} {A : Option Addr} {l : List Int} (h : IntSl w lo (.slice A n c) l) : l.length = n ∧ n ≤ c := by
  rcases h.2 with ⟨hv, hn⟩ | ⟨g', cap, cur, hv, _, _, h1, h2, _⟩
  · injection hv with e1 e2 e3
    subst e2 e3
    exact ⟨by simpa using hn, Nat.le_refl _⟩
  · injection hv with e1 e2 e3
    subst e2 e3
    exact ⟨rfl, h1⟩
theorem heap_two2 (w : World) (A B : Obj) : ((w.alloc A).alloc B).heap[w.heap.size + 1]? = some B := by
  have := heap_alloc_new (w.alloc A) B
  rwa [World.size_alloc] at this

set_option maxHeartbeats 1000000 in
theorem flowKey1_any (w : World) (g bx c n : Nat) (A : Option Addr) (l : List Dish) (hn : l.length = n) (hA : DishesAt w A l) (hne : ∀ a, A = some a → a.block ≠ g) (hbx : w.cell? ⟨bx, 0, none⟩ = some (.slice A n c)) (hbg : bx ≠ g) :
    KeyK w g n 34 #[.pointer (some ⟨bx, 0, none⟩)] (prepKey l) := by
  intro W hg x hx0 hx1
  subst hn
  have hc : W.cell? ⟨bx, 0, none⟩ = some (.slice A l.length c) := hg.cell hbx (by intro e; injection e with e; exact hbg e)
  obtain ⟨q, rfl⟩ : ∃ q : Nat, x = q := ⟨x.toNat, by omega⟩
  have hq : q < l.length := by omega
  obtain ⟨b, off, rfl, hbl, hc1, hc2⟩ := (dishes_grown hA hg hne) q l[q] (List.getElem?_eq_getElem hq)
  have HV : Hid (prepKey l q = l[q].prep) := hide (by simp [prepKey, dishAt, hq])
  generalize l[q] = v at *
  have hz : (0 : Int) ≤ q := by omega
  have hz2 : (q : Int) < l.length := by omega
  clear hg hA hne hbx hbg
  show Calls Try.prog 34 #[.int .i64 q, .pointer (some ⟨bx, 0, none⟩)] W _
  go_enter Try.func34, Try.ntmps34
  go_wp2_with fail
  go_ret
  exact ⟨by rw [HV.out]; rfl, 0, rfl⟩

set_option maxHeartbeats 1000000 in
theorem flowKey2_any (w : World) (g bx c n : Nat) (A : Option Addr) (l : List Dish) (hn : l.length = n) (hA : DishesAt w A l) (hne : ∀ a, A = some a → a.block ≠ g) (hbx : w.cell? ⟨bx, 0, none⟩ = some (.slice A n c)) (hbg : bx ≠ g) (HD : Hid (dishesOk l = true)) :
    KeyK w g n 35 #[.pointer (some ⟨bx, 0, none⟩)] (cookKey l) := by
  intro W hg x hx0 hx1
  subst hn
  have hc : W.cell? ⟨bx, 0, none⟩ = some (.slice A l.length c) := hg.cell hbx (by intro e; injection e with e; exact hbg e)
  obtain ⟨q, rfl⟩ : ∃ q : Nat, x = q := ⟨x.toNat, by omega⟩
  have hq : q < l.length := by omega
  obtain ⟨b, off, rfl, hbl, hc1, hc2⟩ := (dishes_grown hA hg hne) q l[q] (List.getElem?_eq_getElem hq)
  have hr := dishesOk_at HD.out (List.getElem_mem hq)
  have HV : Hid (cookKey l q = -(l[q].cook)) := hide (by simp [cookKey, dishAt, hq])
  generalize l[q] = v at *
  have hw1 : IntKind.i64.wrap (-v.cook) = -v.cook := IntWalk.i64_in _ (by omega)
  have hz : (0 : Int) ≤ q := by omega
  have hz2 : (q : Int) < l.length := by omega
  clear hg hA hne hbx hbg
  show Calls Try.prog 35 #[.int .i64 q, .pointer (some ⟨bx, 0, none⟩)] W _
  go_enter Try.func35, Try.ntmps35
  go_wp2_with fail
  go_ret
  exact ⟨by rw [HV.out]; rfl, 0, rfl⟩

set_option maxHeartbeats 1000000 in
theorem insertionSort_nil (f : Value) (w : World) :
    Calls Try.prog 81 #[.slice none 0 0, .int .i64 0, .int .i64 0, f] w fun e w' => e = .returned (.tuple #[]) ∧ w = w' := by
  go_enter Try.func81, Try.ntmps81
  go_wp2_with fail
  go_loopw [8] (fun iv wr => iv = .int .i64 1 ∧ w = wr) (fun _ _ => 0)
  case atStart => exact ⟨rfl, rfl⟩
  case round =>
    obtain ⟨rfl, rfl⟩ := hrel
    go_wp2_with fail
    go_end0
    exact ⟨rfl, rfl⟩

set_option maxHeartbeats 1000000 in
theorem sortBy_nil (gk : Nat) (kb : Array Value) (w : World) :
    Calls Try.prog 33 #[.slice none 0 0, .func (.func gk) #[] kb] w fun e w' => e = .returned (.tuple #[]) ∧ w.alloc (.cells #[.func (.func gk) #[] kb] 50) = w' := by
  have hmf : ∀ (fn : Fn) (first cap : Array Value) (w : World), (Instr.makeFunc fn first cap).run Try.prog w = .ok (.func fn first cap) w := fun _ _ _ _ => rfl
  have hst : ∀ (f : Value) (w : World), Calls Try.prog 75 #[.slice none 0 0, .int .i64 0, f] w fun e w' => e = .returned (.tuple #[]) ∧ w = w' := by
    intro f w
    go_enter Try.func75, Try.ntmps75
    go_wp2_with fail
    go_loopw [7, 8] (fun av bv wr => av = .int .i64 0 ∧ bv = .int .i64 20 ∧ w = wr) (fun _ _ _ => 0)
    case atStart => exact ⟨rfl, rfl, rfl⟩
    case round =>
      obtain ⟨rfl, rfl, rfl⟩ := hrel
      go_wp2_with fail
      refine (insertionSort_nil _ _).mono ?_
      rintro e w1 ⟨rfl, rfl⟩
      go_wp2_with fail
      go_loopw [6] (fun av wr => av = .int .i64 20 ∧ w = wr) (fun _ _ => 0)
      case atStart => exact ⟨rfl, rfl⟩
      case round =>
        obtain ⟨rfl, rfl⟩ := hrel
        go_wp2_with fail
        go_end0
        exact ⟨rfl, rfl⟩
  have hss : ∀ (f : Value) (w : World), Calls Try.prog 58 #[.slice none 0 0, f] w fun e w' => e = .returned (.tuple #[]) ∧ w = w' := by
    intro f w
    have HST := hide hst
    clear hst
    go_enter Try.func58, Try.ntmps58
    go_wp2_with fail
    refine (HST.out _ _).mono ?_
    rintro e w1 ⟨rfl, rfl⟩
    go_wp2_with fail
    go_end0
    exact ⟨rfl, rfl⟩
  have HSS := hide hss
  clear hss hst
  go_enter Try.func33, Try.ntmps33
  go_wp2_with fail
  refine (HSS.out _ _).mono ?_
  rintro e w1 ⟨rfl, rfl⟩
  clear hmf
  go_wp2_with fail
  go_end0
  exact ⟨rfl, rfl⟩

/-- A slice that the call owns, or nil where there is nothing. -/
structure OwnI (w : World) (lo : Nat) (v : Value) (xs : List Int) : Prop where
  own : IntSl w lo v xs
  nil : xs = [] → v = .slice none 0 0
theorem OwnI.below {w w' : World} {lo : Nat} {v : Value} {xs : List Int} (h : OwnI w lo v xs) (hb : Below w.heap.size w w') : OwnI w' lo v xs := ⟨h.own.below hb, h.nil⟩
theorem OwnI.row {w w' : World} {lo : Nat} {v : Value} {xs : List Int} {q : Option Nat} (h : OwnI w lo v xs) (hg : w.grownBy w' q) (hne : v.ownBlock = none ∨ v.ownBlock ≠ q) : OwnI w' lo v xs := ⟨h.own.row hg hne, h.nil⟩

set_option maxHeartbeats 1000000 in
/-- The program's sort of a list that may be nil. -/
theorem sortByV_any (lo m gk : Nat) (v : Value) (xs : List Int) (key : Int → Int) (kb : Array Value) (w : World) (hn : xs.length < 20) (HR : Hid (∀ x ∈ xs, 0 ≤ x ∧ x < m))
    (h : OwnI w lo v xs) (heg : ∀ args w, (callFunc gk args).run Try.prog w = .ok (.enter gk args) w) (HK : Hid (∀ g, v.ownBlock = some g → KeyK w g m gk kb key)) :
    Calls Try.prog 33 #[v, .func (.func gk) #[] kb] w fun e w' =>
      e = .returned (.tuple #[]) ∧ OwnI w' lo v (isortTo key xs xs.length) ∧ w.grownBy w' v.ownBlock := by
  by_cases hx : xs = []
  · subst hx
    obtain rfl := h.nil rfl
    refine (sortBy_nil gk kb w).mono ?_
    rintro e w' ⟨rfl, rfl⟩
    exact ⟨rfl, ⟨World.ownsRow_nil _ _ _ _, fun _ => rfl⟩, World.grownBy_alloc w _ _⟩
  · have hl : 0 < xs.length := List.length_pos_iff.2 hx
    obtain ⟨g, cap, rfl, -, -⟩ := h.own.own hl
    refine (sortBy_any lo g cap xs.length m gk xs key kb w rfl hn HR h.own heg (hide (HK.out g rfl))).mono ?_
    rintro e w' ⟨rfl, hS, hg⟩
    refine ⟨rfl, ⟨hS, fun e => ?_⟩, hg⟩
    have := congrArg List.length e
    rw [isortTo_len] at this
    simp at this
    exact absurd this hx

theorem pickD_succ (P : Dish → Bool) (l : List Dish) (k : Nat) : pickD P l (k + 1) = pickD P l k ++ (if P (l.getD k ⟨0, 0⟩) = true then [(k : Int)] else []) := rfl

set_option maxRecDepth 100000 in
set_option maxHeartbeats 4000000 in
theorem implFlowBest_any (A : Option Addr) (c : Nat) (l : List Dish) (w : World) (hA : DishesAt w A l) (hl : l.length ≤ 1048576) :
    Calls Try.prog 11 #[.slice A l.length c] w fun e w' => ∃ v, e = .returned v ∧ IntSl w' w.heap.size v (flowBestL l) ∧ Below w.heap.size w w' := by
  have hb0 : Below w.heap.size w (w.alloc (.cells #[.slice A l.length c] 26)) := by go_grown
  have hA0 := hA.below hb0
  cases hI : dishesOk l with
  | false =>
    have HI := hide hI
    have H3 : Hid (flowBestL l = []) := hide (by unfold flowBestL; rw [hI]; rfl)
    clear hI
    go_enter Try.func11, Try.ntmps11
    go_wp2_with fail
    refine (implDishesValid_any _ _ _ _ hA0 hl).mono ?_
    rintro e w1 ⟨rfl, hB1⟩
    have hb1 := next hb0 hB1
    rw [HI.out]
    go_wp2_with fail
    refine bodyPost_ret (results_tmp rfl _ _ _) rfl ⟨.slice none 0 0, rfl, by rw [H3.out]; exact World.ownsRow_nil _ _ _ _, hb1⟩
  | true =>
    have HI := hide hI
    have h6 := dishesOk_len hI
    have HF := hide (flowBest_is hI)
    clear hI
    go_enter Try.func11, Try.ntmps11
    go_wp2_with fail
    refine (implDishesValid_any _ _ _ _ hA0 hl).mono ?_
    rintro e w1 ⟨rfl, hB1⟩
    have hb1 := next hb0 hB1
    have hbx : w1.cell? ⟨w.heap.size, 0, none⟩ = some (.slice A l.length c) := (hB1.cell (p := ⟨w.heap.size, 0, none⟩) (by simp)).trans (by simp)
    have hsz1 : w.heap.size < w1.heap.size := by have := hB1.size; simp at this; omega
    rw [HI.out]
    clear hA0 hb0 hB1
    go_wp2_with fail
    go_loopw [3, 4, 12] (fun sv ov i wr => ∃ k : Nat, k ≤ l.length ∧ i = .int .i64 k ∧ OwnI wr (w.heap.size + 1) sv (pickD shortP l k) ∧ OwnI wr (w.heap.size + 1) ov (pickD otherP l k) ∧ Hid (∀ q, sv.ownBlock = some q → ov.ownBlock ≠ some q) ∧ wr.cell? ⟨w.heap.size, 0, none⟩ = some (.slice A l.length c) ∧ w.heap.size < wr.heap.size ∧ Below w.heap.size w wr) (fun _ _ i _ => l.length - (intOf i).toNat)
    case atStart => exact ⟨0, Nat.zero_le _, rfl, ⟨World.ownsRow_nil _ _ _ _, fun _ => rfl⟩, ⟨World.ownsRow_nil _ _ _ _, fun _ => rfl⟩, hide (fun q h => by cases h), hbx, hsz1, hb1⟩
    case round =>
      clear hbx hsz1 hb1
      obtain ⟨k, hk, rfl, hS, hO, HNE, hbx, hsz0, hb⟩ := hrel
      have hsz := hb.size
      by_cases hlt : k < l.length
      · obtain ⟨b, off, rfl, hbl, hc1, hc2⟩ := (hA.below hb) k l[k] (List.getElem?_eq_getElem hlt)
        have HX : Hid (l.getD k ⟨0, 0⟩ = l[k]) := hide (by simp [hlt])
        generalize l[k] = x at *
        obtain ⟨xp, xc⟩ := x
        simp only at hc1 hc2
        have hz : (0 : Int) ≤ k := by omega
        have hz2 : (k : Int) < l.length := by omega
        have hsl := pickD_len (P := shortP) (l := l) k
        have hol := pickD_len (P := otherP) (l := l) k
        obtain ⟨xa, hxa⟩ : ∃ xa, pickD shortP l k = xa := ⟨_, rfl⟩
        obtain ⟨xb, hxb⟩ : ∃ xb, pickD otherP l k = xb := ⟨_, rfl⟩
        rw [hxa] at hS hsl
        rw [hxb] at hO hol
        have HSL := hide (World.ownsRow.lt hS.own)
        have HOL := hide (World.ownsRow.lt hO.own)
        have hbw : Below wr.heap.size wr ((wr.alloc (.cells #[.int .i64 xp, .int .i64 xc] 46)).alloc (.cells #[.int .i64 (k : Int)] 3)) := by go_grown
        have hS2 := hS.below hbw
        have hO2 := hO.below hbw
        have hbb := next hb hbw
        have hbx2 : ((wr.alloc (.cells #[.int .i64 xp, .int .i64 xc] 46)).alloc (.cells #[.int .i64 (k : Int)] 3)).cell? ⟨w.heap.size, 0, none⟩ = some (.slice (some ⟨b, off, none⟩) l.length c) := (hbw.cell (p := ⟨w.heap.size, 0, none⟩) hsz0).trans hbx
        have HS := hide hS2
        have HO := hide hO2
        have HBB := hide hbb
        have HBX := hide hbx2
        clear hS hO hS2 hO2 hbw hbb hbx2
        by_cases hpc : xp < xc
        · have HA1 : Hid (pickD shortP l (k + 1) = xa ++ [(k : Int)]) := hide (by rw [pickD_succ, hxa, HX.out, if_pos (by unfold shortP; exact decide_eq_true hpc)])
          have HA2 : Hid (pickD otherP l (k + 1) = xb) := hide (by rw [pickD_succ, hxb, HX.out, if_neg (by unfold otherP; rw [decide_eq_true hpc]; simp), List.append_nil])
          clear hxa hxb
          go_wp2_with (at_builtin; refine wpList_push_int rfl _ _ rfl (w.heap.size + 1) u3 xa rfl HS.out.own (wr.heap.size + 1) (k : Int) rfl (heap_two2 wr _ _) (by omega) (by simp; omega) ?_; intro g5 cap w5 hown hgrow hnew; have HOWN := hide hown; have HGROW := hide hgrow; have HNEW := hide hnew; clear hown hgrow hnew)
          have hne1 : u4.ownBlock = none ∨ u4.ownBlock ≠ u3.ownBlock := by
            cases e : u3.ownBlock with
            | none => cases e2 : u4.ownBlock <;> simp
            | some q => exact .inr (HNE.out q e)
          have HO5 := hide (OwnI.row HO.out HGROW.out hne1)
          have hb5 : Below w.heap.size w w5 := HBB.out.grown HGROW.out (by simp; omega) (fun k hk => by have := (HSL.out k hk).1; omega)
          have hbx5 : w5.cell? ⟨w.heap.size, 0, none⟩ = some (.slice (some ⟨b, off, none⟩) l.length c) := HGROW.out.cell HBX.out (by
            intro e
            have := (HSL.out _ e.symm).1
            simp at this
            omega)
          have hsz5 : w.heap.size < w5.heap.size := Nat.lt_of_lt_of_le hsz0 (Nat.le_trans (by simp; omega) HGROW.out.size)
          have HNE5 : Hid (∀ q, (Value.slice (some ⟨g5, 0, none⟩) (xa.length + 1) cap).ownBlock = some q → u4.ownBlock ≠ some q) := hide (fun q hq e => by
            have hq : some g5 = some q := hq
            injection hq with hq
            subst hq
            rcases HNEW.out with h | h
            · exact HNE.out _ h e
            · have := (HOL.out _ e).2
              simp at h
              omega)
          go_wp2_with fail
          go_roundw
          case rel => exact ⟨k + 1, hlt, by go_num, by rw [HA1.out]; exact ⟨HOWN.out, fun e => by simp at e⟩, by rw [HA2.out]; exact HO5.out, HNE5, hbx5, hsz5, hb5⟩
          case measure => simp [intOf]; omega
        · have HA1 : Hid (pickD shortP l (k + 1) = xa) := hide (by rw [pickD_succ, hxa, HX.out, if_neg (by unfold shortP; rw [decide_eq_false hpc]; simp), List.append_nil])
          have HA2 : Hid (pickD otherP l (k + 1) = xb ++ [(k : Int)]) := hide (by rw [pickD_succ, hxb, HX.out, if_pos (by unfold otherP; rw [decide_eq_false hpc]; rfl)])
          clear hxa hxb
          go_wp2_with (at_builtin; refine wpList_push_int rfl _ _ rfl (w.heap.size + 1) u4 xb rfl HO.out.own (wr.heap.size + 1) (k : Int) rfl (heap_two2 wr _ _) (by omega) (by simp; omega) ?_; intro g5 cap w5 hown hgrow hnew; have HOWN := hide hown; have HGROW := hide hgrow; have HNEW := hide hnew; clear hown hgrow hnew)
          have hne1 : u3.ownBlock = none ∨ u3.ownBlock ≠ u4.ownBlock := by
            cases e : u3.ownBlock with
            | none => exact .inl rfl
            | some q => exact .inr (fun h => HNE.out q e h.symm)
          have HS5 := hide (OwnI.row HS.out HGROW.out hne1)
          have hb5 : Below w.heap.size w w5 := HBB.out.grown HGROW.out (by simp; omega) (fun k hk => by have := (HOL.out k hk).1; omega)
          have hbx5 : w5.cell? ⟨w.heap.size, 0, none⟩ = some (.slice (some ⟨b, off, none⟩) l.length c) := HGROW.out.cell HBX.out (by
            intro e
            have := (HOL.out _ e.symm).1
            simp at this
            omega)
          have hsz5 : w.heap.size < w5.heap.size := Nat.lt_of_lt_of_le hsz0 (Nat.le_trans (by simp; omega) HGROW.out.size)
          have HNE5 : Hid (∀ q, u3.ownBlock = some q → (Value.slice (some ⟨g5, 0, none⟩) (xb.length + 1) cap).ownBlock ≠ some q) := hide (fun q hq e => by
            have e : some g5 = some q := e
            injection e with e
            subst e
            rcases HNEW.out with h | h
            · exact HNE.out _ hq h
            · have := (HSL.out _ hq).2
              simp at h
              omega)
          go_wp2_with fail
          go_roundw
          case rel => exact ⟨k + 1, hlt, by go_num, by rw [HA1.out]; exact HS5.out, by rw [HA2.out]; exact ⟨HOWN.out, fun e => by simp at e⟩, HNE5, hbx5, hsz5, hb5⟩
          case measure => simp [intOf]; omega
      · obtain rfl : k = l.length := by omega
        have hz2 : ¬ ((l.length : Int) < l.length) := by omega
        have hsl := pickD_len (P := shortP) (l := l) l.length
        have hol := pickD_len (P := otherP) (l := l) l.length
        have HRS : Hid (∀ x ∈ pickD shortP l l.length, 0 ≤ x ∧ x < (l.length : Int)) := hide (fun x hx => ⟨(pickD_mem.1 hx).1, (pickD_mem.1 hx).2.1⟩)
        have HRO : Hid (∀ x ∈ pickD otherP l l.length, 0 ≤ x ∧ x < (l.length : Int)) := hide (fun x hx => ⟨(pickD_mem.1 hx).1, (pickD_mem.1 hx).2.1⟩)
        have hnl : ∀ P, 0 < (pickD P l l.length).length → 0 < l.length := fun P h => Nat.lt_of_lt_of_le h (pickD_len (P := P) (l := l) l.length)
        have hAn : ∀ a, 0 < l.length → A = some a → a.block < w.heap.size := fun a h0 ha => by
          obtain ⟨b, off, e, hlt', _⟩ := hA 0 l[0] (List.getElem?_eq_getElem h0)
          rw [ha] at e
          injection e with e
          subst e
          exact hlt'
        have hSnl : ∀ q, u3.ownBlock = some q → 0 < l.length := fun q hq => by
          refine hnl shortP (List.length_pos_iff.2 (fun e => ?_))
          rw [hS.nil e] at hq
          cases hq
        have hOnl : ∀ q, u4.ownBlock = some q → 0 < l.length := fun q hq => by
          refine hnl otherP (List.length_pos_iff.2 (fun e => ?_))
          rw [hO.nil e] at hq
          cases hq
        have hSlt := World.ownsRow.lt hS.own
        have hOlt := World.ownsRow.lt hO.own
        generalize pickD shortP l l.length = xa at *
        generalize pickD otherP l l.length = xb at *
        have HK1 : Hid (∀ g, u3.ownBlock = some g → KeyK wr g l.length 34 #[.pointer (some ⟨w.heap.size, 0, none⟩)] (prepKey l)) := hide (fun g hg =>
          flowKey1_any wr g w.heap.size c l.length A l rfl (hA.below hb) (fun a ha => by have h1 := hAn a (hSnl g hg) ha; have h2 := (hSlt g hg).1; omega) hbx (by have h2 := (hSlt g hg).1; omega))
        have HC1 := hide (sortByV_any (w.heap.size + 1) l.length 34 u3 xa (prepKey l) #[.pointer (some ⟨w.heap.size, 0, none⟩)] wr (by omega) HRS hS (enters_of Try.func34 (by kernel_rfl) rfl) HK1)
        have hmf : ∀ (fn : Fn) (first cap : Array Value) (w : World), (Instr.makeFunc fn first cap).run Try.prog w = .ok (.func fn first cap) w := fun _ _ _ _ => rfl
        have HO := hide hO
        have HANB := hide hAn
        have HONL := hide hOnl
        have HSNL := hide hSnl
        have HSLT := hide hSlt
        have HOLT := hide hOlt
        clear hS hO hAn hOnl hSnl hSlt hOlt hnl
        go_wp2_with fail
        refine HC1.out.mono ?_
        rintro e w2 ⟨rfl, hS2, hg2⟩
        have hb2 : Below w.heap.size w w2 := hb.grown hg2 hsz (fun k hk => by have := (HSLT.out k hk).1; omega)
        have hne1 : u4.ownBlock = none ∨ u4.ownBlock ≠ u3.ownBlock := by
          cases e : u3.ownBlock with
          | none => cases e2 : u4.ownBlock <;> simp
          | some q => exact .inr (HNE.out q e)
        have hO2 := HO.out.row hg2 hne1
        have hbx2 : w2.cell? ⟨w.heap.size, 0, none⟩ = some (.slice A l.length c) := hg2.cell hbx (by
          intro e
          have := (HSLT.out _ e.symm).1
          simp at this
          omega)
        have hd2 : DishesAt w2 A l := dishes_grownQ (hA.below hb) hg2 (fun a h0 ha e => by have h1 := HANB.out a h0 ha; have h2 := (HSLT.out _ e.symm).1; omega)
        have HK2 : Hid (∀ g, u4.ownBlock = some g → KeyK w2 g l.length 35 #[.pointer (some ⟨w.heap.size, 0, none⟩)] (cookKey l)) := hide (fun g hg =>
          flowKey2_any w2 g w.heap.size c l.length A l rfl hd2 (fun a ha => by have h1 := HANB.out a (HONL.out g hg) ha; have h2 := (HOLT.out g hg).1; omega) hbx2 (by have h2 := (HOLT.out g hg).1; omega) HI)
        have HC2 := hide (sortByV_any (w.heap.size + 1) l.length 35 u4 xb (cookKey l) #[.pointer (some ⟨w.heap.size, 0, none⟩)] w2 (by omega) HRO hO2 (enters_of Try.func35 (by kernel_rfl) rfl) HK2)
        have HS2 := hide hS2
        have hgs2 := hg2.size
        clear hS2 hO2 hd2 hbx2 hbx hg2
        go_wp2_with fail
        refine HC2.out.mono ?_
        rintro e w3 ⟨rfl, hO3, hg3⟩
        have hb3 : Below w.heap.size w w3 := hb2.grown hg3 hb2.size (fun k hk => by have := (HOLT.out k hk).1; omega)
        have hne2 : u3.ownBlock = none ∨ u3.ownBlock ≠ u4.ownBlock := by
          cases e : u3.ownBlock with
          | none => exact .inl rfl
          | some q => exact .inr (fun h => HNE.out q e h.symm)
        have hS3 := HS2.out.row hg3 hne2
        have hsz3 := hb3.size
        have hl1 : (isortTo (prepKey l) xa xa.length).length ≤ 6 := by rw [isortTo_len]; omega
        have hl2 : (isortTo (cookKey l) xb xb.length).length ≤ 6 := by rw [isortTo_len]; omega
        have HF := HF
        generalize isortTo (prepKey l) xa xa.length = sa at *
        generalize isortTo (cookKey l) xb xb.length = sb at *
        have hlo : w.heap.size + 1 ≤ w3.heap.size := by
          have h2 := hg3.size
          omega
        clear hmf hg3
        by_cases hsb : sb = []
        · subst hsb
          obtain rfl := hO3.nil rfl
          have HFF : Hid (sa = flowBestL l) := hide (by rw [← HF.out, List.append_nil])
          by_cases hsa : sa = []
          · subst hsa
            obtain rfl := hS3.nil rfl
            have hs0 := hS3.own
            clear hS3 hO3
            go_wp2_with fail
            refine bodyPost_ret (results_tmp rfl _ _ _) rfl ⟨.slice none 0 0, rfl, by rw [← HFF.out]; exact World.ownsRow_nil _ _ _ _, hb3⟩
          · obtain ⟨g3, c3, rfl, -, -⟩ := hS3.own.own (List.length_pos_iff.2 hsa)
            have HS3 := hide hS3.own
            have hcp := (IntSl.capF hS3.own).2
            clear hS3 hO3
            go_wp2_with fail
            refine bodyPost_ret (results_tmp rfl _ _ _) rfl ⟨.slice (some ⟨g3, 0, none⟩) sa.length c3, rfl, by rw [← HFF.out]; exact IntSl.mono HS3.out (by omega), hb3⟩
        · have hm0 : 0 < sb.length := List.length_pos_iff.2 hsb
          obtain ⟨g4, c4, rfl, -, -⟩ := hO3.own.own hm0
          have hI4 := hO3.own.ints
          go_wp2_with (at_builtin; refine wpList_spreadN_int rfl _ _ rfl (w.heap.size + 1) u3 sa rfl hS3.own ⟨g4, 0, none⟩ sb.length c4 hm0 sb rfl rfl hI4 (by omega) hlo ?_; intro g5 cap w5 hown hgrow; have HOWN := hide hown; have HGROW := hide hgrow; clear hown hgrow)
          have hb5 : Below w.heap.size w w5 := hb3.grown HGROW.out hsz3 (fun k hk => by have := (HSLT.out k hk).1; omega)
          have HFF : Hid (sa ++ sb = flowBestL l) := HF
          refine bodyPost_ret (results_tmp rfl _ _ _) rfl ⟨.slice (some ⟨g5, 0, none⟩) (sa.length + sb.length) cap, rfl, by rw [← HFF.out]; exact IntSl.mono HOWN.out (by omega), hb5⟩

set_option maxHeartbeats 1000000 in
theorem implFlowLeast_any (A : Option Addr) (c : Nat) (l : List Dish) (w : World) (hA : DishesAt w A l) (hl : l.length ≤ 1048576) :
    Calls Try.prog 18 #[.slice A l.length c] w fun e w' => e = .returned (.int .i64 (flowEndL l (flowBestL l))) ∧ Below w.heap.size w w' := by
  obtain ⟨T, HT⟩ : ∃ T, Hid (flowBestL l = T) := ⟨_, hide rfl⟩
  have hTl : T.length ≤ 1048576 := by rw [← HT.out]; exact Nat.le_trans (flowBestL_len _) hl
  rw [HT.out]
  go_enter Try.func18, Try.ntmps18
  go_wp2_with fail
  refine (implFlowBest_any _ _ _ _ hA hl).mono ?_
  rintro e w1 ⟨v, rfl, hS, hB1⟩
  rw [HT.out] at hS
  obtain ⟨A1, c1, rfl, hI, -⟩ := hS.form
  have HI := hide hI
  clear hS hI
  go_wp2_with fail
  refine (implFlowEnd_any _ _ _ _ _ _ _ (hA.below hB1) hl HI.out hTl).mono ?_
  rintro e w2 ⟨rfl, hB2⟩
  have hb2 := next hB1 hB2
  go_wp2_with fail
  go_ret
  exact ⟨rfl, hb2⟩

set_option maxHeartbeats 1000000 in
theorem specFlowLeast_any (A : Option Addr) (c : Nat) (l : List Dish) (w : World) (hA : DishesAt w A l) (hl : l.length ≤ 1048576) :
    Calls Try.prog 17 #[.slice A l.length c] w fun e w' => e = .returned (.int .i64 (flowEndL l (flowBestL l))) ∧ Below w.heap.size w w' := by
  obtain ⟨T, HT⟩ : ∃ T, Hid (flowBestL l = T) := ⟨_, hide rfl⟩
  have hTl : T.length ≤ 1048576 := by rw [← HT.out]; exact Nat.le_trans (flowBestL_len _) hl
  rw [HT.out]
  go_enter Try.func17, Try.ntmps17
  go_wp2_with fail
  refine (specFlowBest_any _ _ _ _ hA hl).mono ?_
  rintro e w1 ⟨v, rfl, hS, hB1⟩
  rw [HT.out] at hS
  obtain ⟨A1, c1, rfl, hI, -⟩ := hS.form
  have HI := hide hI
  have hcp := (IntSl.capG hS).2
  clear hS hI
  go_wp2_with fail
  refine (specFlowEnd_any _ _ _ _ _ _ _ (hA.below hB1) hl HI.out hTl hcp).mono ?_
  rintro e w2 ⟨rfl, hB2⟩
  have hb2 := next hB1 hB2
  go_wp2_with fail
  go_ret
  exact ⟨rfl, hb2⟩
end Go.Proofs.Yteloapholoechab
