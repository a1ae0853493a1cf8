/- Contract of the draw of a ticket.
   Conditions: the bounds in each statement. -/
import Derived.Test.YteocmjffjinphaaDoorDraw
import Derived.Test.YteocmjffjinphaaDoorOMark
import Derived.Test.YteocmjffjinphaaDoorTick1
import Derived.Test.YteocmjffjinphaaDoorTick4
namespace Go.Proofs.YteocmjffjinphaaDoor
open Go.RowKit Go.ChangeShapes Go.WideShapes Go.ChangeAt Go.Deep

theorem wpList_wantedR {P : Program} {ops : Array Oper} {Q : Exit → Act → World → Prop} {rest : List Oper} {o : Oper} {a : Act} {w : World} (hw : Region.wanted o (yielded ops a.tmps) = true) (h : o.wp P a w (wpList P ops Q rest) Q) : wpList P ops Q (o :: rest) a w := by
  unfold wpList
  rw [if_pos hw]
  exact .inl h
theorem rd_grownR {w w' : World} {b n : Nat} {row : Option Nat} (hR : Rd w b n) (hg : w.grownBy w' row) (hr : ∀ k, row = some k → b < k) : Rd w' b n :=
  hR.kept fun j hj => hg.block j (by have := hR.lt; omega) (fun e => by have := hr j e.symm; omega)
theorem grown_rowR {w wr w' : World} {b : Nat} {row : Option Nat} (h : w.grownBy wr (some b)) (hg : wr.grownBy w' row) (hr : ∀ k, row = some k → w.heap.size ≤ k) : w.grownBy w' (some b) :=
  ⟨hg.os.trans h.os, hg.tape.trans h.tape, hg.output.trans h.output, Nat.le_trans h.size hg.size, fun j hj hne =>
    (hg.block j (Nat.lt_of_lt_of_le hj h.size) (fun e => by have := hr j e.symm; omega)).trans (h.block j hj hne)⟩
theorem grown_belowR {w wr w' : World} {b : Nat} (h : w.grownBy wr (some b)) (hb : Below wr.heap.size wr w') : w.grownBy w' (some b) :=
  ⟨hb.os.trans h.os, hb.tape.trans h.tape, hb.output.trans h.output, Nat.le_trans h.size hb.size, fun j hj hne => (hb.block j (Nat.lt_of_lt_of_le hj h.size)).trans (h.block j hj hne)⟩
theorem rd_belowR {w w' : World} {b n : Nat} (hR : Rd w b n) (hb : Below w.heap.size w w') : Rd w' b n :=
  hR.kept fun j hj => hb.block j (by have := hR.lt; omega)
theorem row_pickR {w w' : World} {lo b : Nat} {e : TypeId} {size n : Nat} {v : Value} {xs : List Value} (h : w.ownsRow lo e size v n xs) (hb : b < lo) (hg : w.grownBy w' (some b)) : w'.ownsRow lo e size v n xs := World.ownsRow.kept h hg (by
  cases e : v.ownBlock with
  | none => exact .inl rfl
  | some k => exact .inr (fun e' => by injection e' with e'; have := (World.ownsRow.lt h k e).1; omega))
theorem wp_push_intR {W : World} {o : Oper} {a : Act} {K : Act → World → Prop} {Q : Exit → Act → World → Prop} (s x : Operand)
    (ho : o.op = .call { callee := .builtin .append, args := #[s, x], argTypes := #[30, 30] }) (lo : Nat) (v : Value) (xs : List Int) (hs : a.eval s = v) (hown : IntSl W lo v xs) (g : Nat) (y : Int)
    (hx : a.eval x = .slice (some ⟨g, 0, none⟩) 1 1) (hg : W.heap[g]? = some (.cells #[.int .i64 y] 3 (0, 0))) (hn : xs.length ≤ 1048576) (hlo : lo ≤ W.heap.size)
    (h : ∀ g' cap w', IntSl w' lo (.slice (some ⟨g', 0, none⟩) (xs.length + 1) cap) (xs ++ [y]) → W.grownBy w' v.ownBlock → K (a.put o.dst (.slice (some ⟨g', 0, none⟩) (xs.length + 1) cap)) w') : o.wp Tryd.prog a W K Q := by
  obtain ⟨i0, hi, hz0, hz1, hz2⟩ := info_parts info3
  refine wp_append_lies W s x 30 ho lo 3 i0 (.int .i64 0) 1 8 Tryd.underlying30 hi hz0 hz1 hz2 rfl (by decide) v xs.length (xs.map (.int .i64)) hs hown ⟨g, 0, none⟩ 1 1 [.int .i64 y] hx rfl
    (World.news_of_block (cs := #[.int .i64 y]) hg) (ints_oneCell .i64 [y]) (by decide) (by unfold maxLen; omega) (by omega) hlo _ rfl ?_
  intro g' cap w' h1 h2 _ _
  refine h g' cap w' ?_ h2
  unfold IntSl
  rw [List.length_append, List.map_append]
  exact h1
theorem IntSl.capR {w : World} {lo n c g : Nat} {l : List Int} (h : IntSl w lo (.slice (some ⟨g, 0, none⟩) n c) l) : l.length = n ∧ n ≤ c ∧ c ≤ maxLen ∧ lo ≤ g ∧ g < w.heap.size := by
  have hlt := World.ownsRow.lt h g rfl
  rcases h.2 with ⟨hv, _⟩ | ⟨g', cap, cur, hv, _, _, h1, h2, _⟩
  · cases hv
  · injection hv with e1 e2 e3
    subst e2 e3
    exact ⟨rfl, h1, h2, hlt.1, hlt.2⟩

/-- A drawn ticket: some orders, at most seven. -/
def DrewTick (w : World) (b n : Nat) (e : Ending) (w' : World) : Prop := ∃ (ls : List Order) (A : Option Addr) (c : Nat), e = .returned (.slice A ls.length c) ∧ OrderSl w' w.heap.size (.slice A ls.length c) ls ∧ ls.length ≤ 7 ∧ Rd w' b (n + 60) ∧ w.grownBy w' (some b)

theorem end_pushR {w w5 W w6 : World} {b n gB : Nat} (hG : w.grownBy w5 (some b)) (hR : Rd w5 b n) (hB : Below w5.heap.size w5 W) (hg : W.grownBy w6 (some gB)) (hgB : w5.heap.size ≤ gB) : Rd w6 b n ∧ w.grownBy w6 (some b) := by
  have hB2 : Below w5.heap.size w5 w6 := hB.grown hg hB.size (fun k hk => by injection hk with hk; omega)
  exact ⟨rd_belowR hR hB2, grown_belowR hG hB2⟩
theorem heap_twoR (w : World) (A B : Obj) : ((w.alloc A).alloc B).heap[w.heap.size + 1]? = some B := by
  have := heap_alloc_new (w.alloc A) B
  rwa [World.size_alloc] at this
theorem OrdersAt.tailR {w : World} {g off : Nat} {x : Order} {r : List Order} (h : OrdersAt w (some ⟨g, off, none⟩) (x :: r)) : OrdersAt w (some ⟨g, off + 2, none⟩) r := by
  intro i p hp
  obtain ⟨b, o, e, hlt, h1, h2⟩ := h (i + 1) p (by simpa using hp)
  injection e with e
  injection e with e1 e2
  subst e1 e2
  exact ⟨g, off + 2, rfl, hlt, by rw [show off + 2 + i * 2 = off + (i + 1) * 2 from by omega]; exact h1, by rw [show off + 2 + i * 2 + 1 = off + (i + 1) * 2 + 1 from by omega]; exact h2⟩
theorem tail_atR {w5 W : World} {lo g L c : Nat} {l r : List Order} {x : Order} (h : OrderSl w5 lo (.slice (some ⟨g, 0, none⟩) L c) l) (hl : l = x :: r) (hB : Below w5.heap.size w5 W) : OrdersAt W (some ⟨g, 2, none⟩) r := by
  have h2 := OrderSl.orders (h.below hB)
  rw [hl] at h2
  exact h2.tailR
theorem pair_atR {a b : Int} {j : Nat} (h : j < 2) : ∃ u, (#[Value.int .i64 a, Value.int .i64 b] : Array Value)[j]? = some (.int .i64 u) ∧ ∀ h : j < [Value.int .i64 a, Value.int .i64 b].length, [Value.int .i64 a, Value.int .i64 b][j]'h = .int .i64 u := by
  rcases (by omega : j = 0 ∨ j = 1) with rfl | rfl
  · exact ⟨a, rfl, fun _ => rfl⟩
  · exact ⟨b, rfl, fun _ => rfl⟩
theorem order_litR {W : World} {lo g : Nat} {a b : Int} (hg : W.heap[g]? = some (.cells #[.int .i64 a, .int .i64 b] 58 (0, 0))) (hlo : lo ≤ g) : OrderSl W lo (.slice (some ⟨g, 0, none⟩) 1 1) [⟨a, b⟩] :=
  ⟨rfl, .inr ⟨g, 1, _, rfl, hlo, hg, Nat.le_refl _, by unfold maxLen; omega, rfl, rfl⟩⟩
theorem OrdersAt.nilR (w : World) (A : Option Addr) : OrdersAt w A [] := fun i p hp => by simp at hp
theorem OrderSl.capR {w : World} {lo n c g : Nat} {l : List Order} (h : OrderSl w lo (.slice (some ⟨g, 0, none⟩) n c) l) : l.length = n ∧ n ≤ c ∧ c ≤ maxLen ∧ lo ≤ g ∧ g < w.heap.size := by
  have hlt := World.ownsRow.lt h g rfl
  rcases h.2 with ⟨hv, _⟩ | ⟨g', cap, cur, hv, _, _, h1, h2, _⟩
  · cases hv
  · injection hv with e1 e2 e3
    subst e2 e3
    exact ⟨rfl, h1, h2, hlt.1, hlt.2⟩
theorem OrderSl.two {W : World} {lo : Nat} {v : Value} {l : List Order} (h : OrderSl W lo v l) : (v = .slice none 0 0 ∧ l = []) ∨ ∃ g c, v = .slice (some ⟨g, 0, none⟩) l.length c := by
  rcases h.2 with ⟨hv, hn⟩ | ⟨g, cap, cur, hv, _⟩
  · exact .inl ⟨hv, List.eq_nil_of_length_eq_zero hn⟩
  · exact .inr ⟨g, cap, hv⟩
theorem seven_orders (w : World) (lo : Nat) (hlo : lo ≤ w.heap.size) : OrderSl (w.alloc (.cells (madeCells #[.int .i64 0, .int .i64 0] 14) 58)) lo (.slice (some ⟨w.heap.size, 0, none⟩) 7 7) (List.replicate 7 ⟨0, 0⟩) := orders_zero w 7 hlo (by omega)
theorem cellAR {w3 w5 : World} {b j : Nat} {a c : Int} {u : Value} (hb : b < w3.heap.size) (hg5 : (w3.alloc (.cells #[.int .i64 a, .int .i64 c] 3)).drew.grownBy w5 (some b)) (hu : (#[Value.int .i64 a, Value.int .i64 c] : Array Value)[j]? = some u) : w5.cell? ⟨w3.heap.size, j, none⟩ = some u := by
  have hb5 : w5.heap[w3.heap.size]? = some (.cells #[.int .i64 a, .int .i64 c] 3) := (hg5.block w3.heap.size (by simp) (fun e => by injection e with e; omega)).trans (heap_alloc_new w3 _)
  rw [cell_of_row _ _ _ _ _ _ hb5]
  exact hu
theorem step_spread_tickM {W : World} {ops : Array Oper} {o : Oper} {a : Act} {K : Act → World → Prop} {Q : Exit → Act → World → Prop} {E : Prop} (hgd : o.guard = none) (s x : Operand)
    (ho : o.op = .call { callee := .builtin .append, args := #[s, x], argTypes := #[54, 54] }) (lo : Nat) (v : Value) (ls : List Order) (hs : a.eval s = v) (hown : OrderSl W lo v ls)
    (D : Option Addr) (m c : Nat) (xs : List Order) (hm : xs.length = m) (hx : a.eval x = .slice D m c) (hA : OrdersAt W D xs) (hn : ls.length + m ≤ 1048576) (hlo : lo ≤ W.heap.size)
    (h : ∀ A cap w', OrderSl w' lo (.slice A (ls.length + m) cap) (ls ++ xs) → W.grownBy w' v.ownBlock → K (a.put o.dst (.slice A (ls.length + m) cap)) w') :
    if Region.wanted o (yielded ops a.tmps) = true then Oper.wp Tryd.prog o a W K Q else E := by
  subst hm
  exact step_spread_tick hgd s x ho lo v ls hs hown D c xs hx hA hn hlo h
set_option maxRecDepth 100000 in
theorem tail_sliceR {w : World} {lo c : Nat} {A : Option Addr} {ls : List Order} (h : OrderSl w lo (.slice A ls.length c) ls) : ∃ (M : Int) (A9 : Option Addr) (L9 c9 : Nat), min (1 : Int) (ls.length : Int) = M ∧
    (∀ W, (Instr.slice 54 (.slice A ls.length c) (some (.int .i64 M)) none none).run Tryd.prog W = .ok (.slice A9 L9 c9) W) ∧ (∀ W, (Instr.sliceAt 54 (.slice A ls.length c) (some (.int .i64 M)) none none).run Tryd.prog W = .ok (.slice A9 L9 c9) W) ∧
    (∀ W, OrdersAt W A ls → OrdersAt W A9 (ls.drop 1)) ∧ (ls.drop 1).length = L9 := by
  have ht : Tryd.prog.underlying 54 = some (.slice (Tryd.prog.elem 54)) := rfl
  obtain ⟨i0, hi, hz0, hz1, hz2⟩ := info_parts infoOrder
  have he : Tryd.prog.elem 54 = 58 := rfl
  have hz : ∀ W, (sizeOf (Tryd.prog.elem 54)).run Tryd.prog W = .ok 2 W := fun W => by rfl
  cases ls with
  | nil =>
    rcases OrderSl.two h with ⟨hv, -⟩ | ⟨g, c8, hv⟩
    · injection hv with h1 h2 h3
      subst h1 h3
      have : ∀ W, (Instr.slice 54 (.slice none ([] : List Order).length 0) (some (.int .i64 0)) none none).run Tryd.prog W = .ok (.slice none 0 0) W := fun W => by
        rw [run_slice_l W _ _ _ _ ht .i64 0 (by omega) (by simp), hz]; rfl
      exact ⟨0, none, 0, 0, rfl, this, fun W => (run_sliceAt_slice W _ _ _ _ _ ht).trans (this W), fun W h => h, rfl⟩
    · injection hv with h1 h2 h3
      subst h1 h3
      have : ∀ W, (Instr.slice 54 (.slice (some ⟨g, 0, none⟩) ([] : List Order).length c) (some (.int .i64 0)) none none).run Tryd.prog W = .ok (.slice (some ⟨g, 0, none⟩) 0 c) W := fun W => by
        rw [run_slice_l W _ _ _ _ ht .i64 0 (by omega) (by simp), hz]; simp [Result.andThen, sliced, Addr.add]
      exact ⟨0, some ⟨g, 0, none⟩, 0, c, rfl, this, fun W => (run_sliceAt_slice W _ _ _ _ _ ht).trans (this W), fun W _ => OrdersAt.nilR _ _, rfl⟩
  | cons x r =>
    rcases OrderSl.two h with ⟨-, hv⟩ | ⟨g, c8, hv⟩
    · cases hv
    · injection hv with h1 h2 h3
      subst h1 h3
      have hcap := OrderSl.capR h
      have hc : r.length + 1 ≤ c := by have := hcap.2.1; simpa using this
      have hM : min (1 : Int) ((x :: r).length : Int) = 1 := by rw [List.length_cons]; omega
      by_cases h1c : c = 1
      · subst h1c
        have hr : r = [] := List.eq_nil_of_length_eq_zero (by omega)
        subst hr
        have : ∀ W, (Instr.slice 54 (.slice (some ⟨g, 0, none⟩) [x].length 1) (some (.int .i64 1)) none none).run Tryd.prog W = .ok (.slice (some ⟨g, 0, none⟩) 0 0) W := fun W => by
          rw [run_slice_l W _ _ _ _ ht .i64 1 (by omega) (by simp), hz]; simp [Result.andThen, sliced]
        exact ⟨1, some ⟨g, 0, none⟩, 0, 0, rfl, this, fun W => (run_sliceAt_slice W _ _ _ _ _ ht).trans (this W), fun W _ => OrdersAt.nilR _ _, rfl⟩
      · have : ∀ W, (Instr.slice 54 (.slice (some ⟨g, 0, none⟩) (x :: r).length c) (some (.int .i64 1)) none none).run Tryd.prog W = .ok (.slice (some ⟨g, 2, none⟩) r.length (c - 1)) W := fun W => by
          rw [run_slice_l W _ _ _ _ ht .i64 1 (by omega) (by rw [List.length_cons]; omega), hz]; simp [Result.andThen, sliced, Addr.add, h1c]
        exact ⟨1, some ⟨g, 2, none⟩, r.length, c - 1, hM, this, fun W => (run_sliceAt_slice W _ _ _ _ _ ht).trans (this W), fun W h => by have := h.tailR; simpa using this, rfl⟩
def evs : List Int := [0, 0, 1, 1, 2, 2, 3]
theorem evs_cell {w : World} {u : Nat} (h : u < 7) {g : Nat} (hg : w.heap[g]? = some (.cells #[.int .i64 0, .int .i64 0, .int .i64 1, .int .i64 1, .int .i64 2, .int .i64 2, .int .i64 3] 3 (0, 0))) : ∃ v : Int, w.cell? ⟨g, u, none⟩ = some (.int .i64 v) := by
  refine ⟨evs.getD u 0, ?_⟩
  rw [cell_of_row w g u _ _ _ hg]
  rcases (by omega : u = 0 ∨ u = 1 ∨ u = 2 ∨ u = 3 ∨ u = 4 ∨ u = 5 ∨ u = 6) with rfl | rfl | rfl | rfl | rfl | rfl | rfl <;> rfl

set_option maxRecDepth 100000 in
set_option maxHeartbeats 4000000 in
theorem l20Ticket_any (b n : Nat) (k : Int) (w : World) (hR : Rd w b n) (hn : n ≤ 80000) (hk : k ≤ 1000000) :
    Calls Tryd.prog 86 #[.pointer (some ⟨b, 0, none⟩), .int .i64 k] w (DrewTick w b n) := by
  have hblt := hR.lt
  have HO : Hid (IntSl (w.alloc (.cells #[] 3)) w.heap.size (.slice (some ⟨w.heap.size, 0, none⟩) 0 0) []) := hide (World.ownsRow_lit w #[] 0 (Nat.le_refl _) (by unfold maxLen; omega) rfl)
  have HRA : Hid (Rd (w.alloc (.cells #[] 3)) b n) := hide (hR.kept (fun j hj => heap_alloc_old w _ (by omega)))
  have HGA : Hid (w.grownBy (w.alloc (.cells #[] 3)) (some b)) := hide (World.grownBy_alloc w _ _)
  go_enter Tryd.func86, Tryd.ntmps86
  go_wp2_with fail
  refine (pick_any b n 7 _ HRA.out (by omega) (by omega)).mono ?_
  rintro e w1 ⟨q, rfl, hq0, hq1, hR1, hgw1⟩
  have HS1 : Hid (IntSl w1 w.heap.size (.slice (some ⟨w.heap.size, 0, none⟩) 0 0) []) := hide (row_pickR HO.out hblt hgw1)
  have HG1 : Hid (w.grownBy w1 (some b)) := hide (HGA.out.trans hgw1)
  have HR1 := hide hR1
  have hq6 : q ≤ 6 := by omega
  clear hgw1 hR1 HO HRA HGA hR
  go_wp2_with fail
  go_loopw [5, 6] (fun v i wr => ∃ (j : Nat) (l : List Int) (L g c : Nat), j ≤ 6 ∧ i = .int .i64 j ∧ L + j ≤ 6 ∧ v = .slice (some ⟨g, 0, none⟩) L c ∧ IntSl wr w.heap.size (.slice (some ⟨g, 0, none⟩) L c) l ∧ Rd wr b (n + 1 + L) ∧ w.grownBy wr (some b)) (fun _ i _ => (intOf i).toNat)
  case atStart => exact ⟨q.toNat, [], 0, w.heap.size, 0, by omega, by rw [Int.toNat_of_nonneg hq0], by omega, rfl, HS1.out, HR1.out, HG1.out⟩
  case round =>
    clear HS1 HG1 HR1
    obtain ⟨j, l, L, g, c, hj, rfl, hlj, rfl, hS, hRr, hgr⟩ := hrel
    have HLL : Hid (l.length = L) := hide hS.capR.1
    have hlL : l.length ≤ L := Nat.le_of_eq HLL.out
    have HS := hide hS
    have HGR := hide hgr
    have hzr := hgr.size
    clear hS hgr
    by_cases hj0 : 0 < j
    · have hjz : (0 : Int) < j := by omega
      go_wp2_with fail
      refine (pick_any b _ 3 _ hRr (by omega) (by omega)).mono ?_
      rintro e w3 ⟨q3, rfl, hq30, hq31, hR3, hg3⟩
      have HS3 := hide (row_pickR HS.out (by omega) hg3)
      have HG3 := hide (HGR.out.trans hg3)
      have HLO := hide (World.ownsRow.lt HS3.out)
      have hz3 := HG3.out.size
      have HR3 := hide hR3
      clear hg3 hR3
      go_wp2_with (at_builtin; refine wpList_wantedR (by rfl) (wp_push_intR _ _ (by rfl) w.heap.size (.slice (some ⟨g, 0, none⟩) L c) l (by rfl) (World.ownsRow.alloc HS3.out _) w3.heap.size q3 (by rfl) (heap_alloc_new w3 _) (by omega) (by simp; omega) ?_); intro g' cap w4 hown hgrow; have HOW := hide (And.intro hown (And.intro (rd_grownR (HR3.out.kept (fun j hj => heap_alloc_old w3 _ (by have := HR3.out.lt; omega))) hgrow (fun k hk => by have := (HLO.out k hk).1; omega)) (grown_rowR (HG3.out.trans (World.grownBy_alloc w3 _ _)) hgrow (fun k hk => (HLO.out k hk).1)))); clear hown hgrow)
      go_roundw
      case rel =>
        obtain ⟨j', rfl⟩ : ∃ j', j = j' + 1 := ⟨j - 1, by omega⟩
        exact ⟨j', l ++ [q3], l.length + 1, g', cap, by omega, by go_num, by omega, by rfl, HOW.out.1, HOW.out.2.1.mono (by rw [HLL.out]; omega), HOW.out.2.2⟩
      case measure => simp [intOf]; omega
    · obtain rfl : j = 0 := by omega
      have hL6 : L ≤ 6 := by omega
      have HIA := hide hRr
      have HI : Hid (IntsAt wr (some ⟨g, 0, none⟩) l) := hide (IntSl.ints HS.out)
      have HCT : Hid (Calls Tryd.prog 96 #[.slice (some ⟨g, 0, none⟩) L c] wr fun e w' => ∃ v, e = .returned v ∧ OrderSl w' wr.heap.size v (ticketNewL l) ∧ Below wr.heap.size wr w') := hide (by
        have := specTicketNew_any (some ⟨g, 0, none⟩) c l wr HI.out (by omega)
        rwa [HLL.out] at this)
      have HTL : Hid ((ticketNewL l).length ≤ 6) := hide (by have := ticketNewL_len l; rw [HLL.out] at this; omega)
      clear hRr
      go_wp2_with fail
      refine HCT.out.mono ?_
      rintro e w5 ⟨tv, rfl, hT5, hB5⟩
      have HR5 := hide (rd_belowR HIA.out hB5)
      have HG5 := hide (grown_belowR HGR.out hB5)
      have HT5 := hide (ownsRow_mono hT5 hzr)
      have hz5 := HG5.out.size
      clear hT5 hB5 HIA HI HCT HS
      go_wp2_with fail
      refine (pick_any b _ 16 _ HR5.out (by omega) (by omega)).mono ?_
      rintro e w6 ⟨q6, rfl, hq60, hq61, hR6, hg6⟩
      have HT6 : Hid (OrderSl w6 w.heap.size tv (ticketNewL l)) := hide (row_pickR HT5.out hblt hg6)
      have HG6 := hide (HG5.out.trans hg6)
      have HR6 := hide hR6
      clear hg6 hR6 HR5 HG5 HT5
      go_wp2_with fail
      go_loopw [7, 8] (fun tv i wr => ∃ (j : Nat) (ls : List Order), j ≤ 15 ∧ i = .int .i64 j ∧ OrderSl wr w.heap.size tv ls ∧ ls.length ≤ 6 ∧ Rd wr b (n + 40 - 2 * j) ∧ w.grownBy wr (some b)) (fun _ i _ => (intOf i).toNat)
      case atStart => exact ⟨q6.toNat, ticketNewL l, by omega, by rw [Int.toNat_of_nonneg hq60], HT6.out, HTL.out, HR6.out.mono (by omega), HG6.out⟩
      case round =>
        clear HT6 HG6 HR6 HTL
        obtain ⟨j, ls, hj15, rfl, hT, hl6, hRr, hgr⟩ := hrel
        have hzr := hgr.size
        have HG := hide hgr
        have hrl := hRr.lt
        by_cases hgo : 0 < j ∧ 0 < ls.length
        · obtain ⟨hj0, hl0⟩ := hgo
          obtain ⟨g7, c7, rfl⟩ := (OrderSl.two hT).resolve_left (fun h => by rw [h.2] at hl0; simp at hl0)
          have HT := hide hT
          have hjz : (0 : Int) < j := by omega
          have hlz : (0 : Int) < ls.length := by omega
          have hl64 : (ls.length : Int) ≤ 1000000 := by omega
          clear hT hgr
          go_wp2_with fail
          refine (pick_any b _ (ls.length : Int) _ hRr (by omega) hl64).mono ?_
          rintro e w8 ⟨i8, rfl, hi80, hi81, hR8, hg8⟩
          have HT8 := hide (row_pickR HT.out hblt hg8)
          have HG8 := hide (HG.out.trans hg8)
          have hz8 := HG8.out.size
          have hl8 := hR8.lt
          have HR8 : Hid (Rd (w8.alloc (.cells #[.int .i64 0, .int .i64 0, .int .i64 1, .int .i64 1, .int .i64 2, .int .i64 2, .int .i64 3] 3)) b _) := hide (hR8.kept (fun j hj => heap_alloc_old w8 _ (by omega)))
          clear hg8 HT
          go_wp2_with fail
          refine (pick_any b _ 7 _ HR8.out (by omega) (by omega)).mono ?_
          rintro e w9 ⟨u9, rfl, hu90, hu91, hR9, hg9⟩
          obtain ⟨u, rfl⟩ : ∃ u : Nat, u9 = u := ⟨u9.toNat, by omega⟩
          have hu7 : u < 7 := by omega
          have hlit : w9.heap[w8.heap.size]? = some (.cells #[.int .i64 0, .int .i64 0, .int .i64 1, .int .i64 1, .int .i64 2, .int .i64 2, .int .i64 3] 3 (0, 0)) := (hg9.block w8.heap.size (by simp) (fun e => by injection e with e; omega)).trans (heap_alloc_new w8 _)
          obtain ⟨ev, hev⟩ := evs_cell hu7 hlit
          have HT9 := hide (row_pickR (World.ownsRow.alloc HT8.out (.cells #[.int .i64 0, .int .i64 0, .int .i64 1, .int .i64 1, .int .i64 2, .int .i64 2, .int .i64 3] 3)) (by omega) hg9)
          have HG9 := hide ((HG8.out.trans (World.grownBy_alloc w8 _ _)).trans hg9)
          have hz9 := HG9.out.size
          have HR9 := hide hR9
          have HI9 := hide (OrderSl.orders HT9.out)
          have hux : (u : Int) < 7 := by omega
          have hu0 : (0 : Int) ≤ u := by omega
          clear hg9 hlit hR9 HR8 HT8
          go_wp2_with fail
          refine (specTicketDo_any _ _ _ _ _ _ HI9.out (by omega)).mono ?_
          rintro e w10 ⟨v10, rfl, hT10, hB10⟩
          have HR10 := hide (rd_belowR HR9.out hB10)
          have HG10 := hide (grown_belowR HG9.out hB10)
          have HT10 := hide (ownsRow_mono hT10 hz9)
          have hl10 : (ticketDoL ls i8 ev).1.length ≤ 6 := Nat.le_trans (ticketDoL_len _ _ _) hl6
          clear hT10 hB10 HR9 HG9
          go_wp2_with fail
          go_roundw
          case rel =>
            obtain ⟨j', rfl⟩ : ∃ j', j = j' + 1 := ⟨j - 1, by omega⟩
            exact ⟨j', _, by omega, by go_num, HT10.out, hl10, HR10.out.mono (by omega), HG10.out⟩
          case measure => simp [intOf]; omega
        · have hcase : j = 0 ∨ (0 < j ∧ ls.length = 0) := by omega
          obtain ⟨A7, c7, rfl, -⟩ := OrderSl.form hT
          have HT := hide hT
          have HRR := hide hRr
          have hll : ls.length ≤ 6 := hl6
          clear hT hgr hRr hgo
          rcases hcase with rfl | ⟨hj0, hl0⟩
          · have hjz : ¬ (0 : Int) < 0 := by omega
            go_wp2_with fail
            refine (odd_any b _ k _ HRR.out (by omega) hk).mono ?_
            rintro e wo ⟨β, rfl, hRo, hgo⟩
            have HTo := hide (row_pickR HT.out hblt hgo)
            have HGo := hide (HG.out.trans hgo)
            have HRo := hide hRo
            clear hgo hRo
            cases β with
            | false =>
              go_wp2_with fail
              refine bodyPost_ret (results_tmp rfl _ _ _) rfl ⟨ls, A7, c7, rfl, HTo.out, by omega, HRo.out.mono (by omega), HGo.out⟩
            | true =>
              go_wp2_with fail
              refine (pick_any b _ 3 _ HRo.out (by omega) (by omega)).mono ?_
              rintro e w3 ⟨q3, rfl, hq30, hq31, hR3, hg3⟩
              have HS3 := hide (row_pickR HTo.out hblt hg3)
              have HG3 := hide (HGo.out.trans hg3)
              have HR3 := hide hR3
              have hz3 := HG3.out.size
              have hl3 := hR3.lt
              clear hg3 hR3
              by_cases hq : q3 = 0
              · subst hq
                have hmk : ∀ w, (Instr.makeSlice 54 (.int .i64 7) (.int .i64 7)).run Tryd.prog w = .ok (.slice (some ⟨w.heap.size, 0, none⟩) 7 7) (w.alloc (.cells (madeCells #[.int .i64 0, .int .i64 0] 14) 58)) := fun w => make_orders 7 (by omega) w
                go_wp2_with fail
                refine bodyPost_ret (results_tmp rfl _ _ _) rfl ⟨List.replicate 7 ⟨0, 0⟩, some ⟨w3.heap.size, 0, none⟩, 7, rfl, seven_orders w3 _ hz3, by simp, (HR3.out.kept (fun j hj => heap_alloc_old w3 _ (by have := HR3.out.lt; omega))).mono (by omega), HG3.out.trans (World.grownBy_alloc w3 _ _)⟩
              · have hqb : (q3 == 0) = false := beq_false_of_ne hq
                by_cases hq1 : q3 = 1
                · subst hq1
                  have HPK : Hid (∀ W, Below w3.heap.size w3 W → Calls Tryd.prog 65 #[.pointer (some ⟨b, 0, none⟩), .int .i64 2] W (Picked W b (n + 46) 2)) := hide (fun W hB => pick_any b _ 2 W ((rd_belowR HR3.out hB).mono (by omega)) (by omega) (by omega))
                  obtain ⟨M, A9, L9, c9, hmin, hsl1, hsl2, hA9, hrl9⟩ := tail_sliceR HS3.out
                  have HA9 := hide hA9
                  have HRL := hide hrl9
                  have hL95 : L9 ≤ 5 := by rw [← hrl9, List.length_drop]; omega
                  clear hA9 hrl9
                  go_wp2_with fail
                  go_region_law (first | (refine step_spread_tickM (by rfl) _ _ (by rfl) w.heap.size (.slice (some ⟨w5.heap.size, 0, none⟩) 1 1) [⟨u5, 0⟩] (by rfl) (order_litR (heap_alloc_new w5 _) hz5) A9 L9 c9 (ls.drop 1) HRL.out (by rfl) (HA9.out _ (OrderSl.orders (OrderSl.below HS5.out (by go_grown)))) (by simp <;> omega) (by simp <;> omega) ?_; intro AA cap w6 hown hgrow; have HOW := hide (And.intro hown (end_pushR HG5.out HR5.out (by go_grown) hgrow (Nat.le_refl _))); clear hown hgrow) | (refine step_spread_tickM (by rfl) _ _ (by rfl) w.heap.size (.slice (some ⟨w5.heap.size + 1, 0, none⟩) 1 1) [⟨u5, 0⟩] (by rfl) (order_litR (heap_twoR w5 _ _) (by omega)) A9 L9 c9 (ls.drop 1) HRL.out (by rfl) (HA9.out _ (OrderSl.orders (OrderSl.below HS5.out (by go_grown)))) (by simp <;> omega) (by simp <;> omega) ?_; intro AA cap w6 hown hgrow; have HOW := hide (And.intro hown (end_pushR HG5.out HR5.out (by go_grown) hgrow (by show w5.heap.size ≤ w5.heap.size + 1; omega))); clear hown hgrow) | (go_simp; go_at_call 65; refine (HPK.out _ (by go_grown)).mono ?_; rintro e w5 ⟨q5, rfl, hq50, hq51, hR5, hg5⟩; obtain ⟨j5, rfl⟩ : ∃ j5 : Nat, q5 = j5 := ⟨q5.toNat, by omega⟩; have hj5 : (j5 : Int) < 2 := (by omega); have hj6 : j5 < 2 := (by omega); obtain ⟨u5, hu5, hu6⟩ := pair_atR (a := -1) (b := 3) hj6; (try have hcA := cellAR HR3.out.lt hg5 hu5); have HG5 := hide ((grown_belowR HG3.out (by go_grown)).trans hg5); have HS5 := hide (row_pickR (OrderSl.below HS3.out (by go_grown)) hblt hg5); have HR5 := hide hR5; have hz5 := HG5.out.size; have hz35 : w3.heap.size ≤ w5.heap.size := (by have := hg5.size; simp at this; omega); clear hg5 hR5))
                  all_goals
                    go_wp2_with fail
                    refine bodyPost_ret (results_tmp rfl _ _ _) rfl ⟨[⟨u5, 0⟩] ++ ls.drop 1, AA, cap, by rw [List.length_append, HRL.out]; rfl, by rw [List.length_append, HRL.out]; exact HOW.out.1, by rw [List.length_append, HRL.out]; simp; omega, HOW.out.2.1.mono (by omega), HOW.out.2.2⟩
                · have hqb1 : (q3 == 1) = false := beq_false_of_ne hq1
                  go_wp2_with fail
                  refine (pick_any b _ 3 _ HR3.out (by omega) (by omega)).mono ?_
                  rintro e w4 ⟨q4, rfl, hq40, hq41, hR4, hg4⟩
                  have HG4 := hide (HG3.out.trans hg4)
                  have hz4 := HG4.out.size
                  have hl4 := hR4.lt
                  have HR4 := hide hR4
                  have HS4 : Hid (OrderSl (w4.alloc (.cells #[.int .i64 0, .int .i64 0, .int .i64 1, .int .i64 (1 + q4)] 58)) w.heap.size (.slice (some ⟨w4.heap.size, 0, none⟩) 2 2) [⟨0, 0⟩, ⟨1, 1 + q4⟩]) := hide (World.ownsRow_lit w4 #[.int .i64 0, .int .i64 0, .int .i64 1, .int .i64 (1 + q4)] 2 hz4 (by unfold maxLen; omega) rfl)
                  clear hg4 hR4
                  go_wp2_with fail
                  refine bodyPost_ret (results_tmp rfl _ _ _) rfl ⟨[⟨0, 0⟩, ⟨1, 1 + q4⟩], some ⟨w4.heap.size, 0, none⟩, 2, rfl, HS4.out, by simp, (HR4.out.kept (fun j hj => heap_alloc_old w4 _ (by omega))).mono (by omega), HG4.out.trans (World.grownBy_alloc w4 _ _)⟩
          · have hjz : (0 : Int) < j := by omega
            have hlz : ¬ (0 : Int) < ls.length := by omega
            clear hl0
            go_wp2_with fail
            refine (odd_any b _ k _ HRR.out (by omega) hk).mono ?_
            rintro e wo ⟨β, rfl, hRo, hgo⟩
            have HTo := hide (row_pickR HT.out hblt hgo)
            have HGo := hide (HG.out.trans hgo)
            have HRo := hide hRo
            clear hgo hRo
            cases β with
            | false =>
              go_wp2_with fail
              refine bodyPost_ret (results_tmp rfl _ _ _) rfl ⟨ls, A7, c7, rfl, HTo.out, by omega, HRo.out.mono (by omega), HGo.out⟩
            | true =>
              go_wp2_with fail
              refine (pick_any b _ 3 _ HRo.out (by omega) (by omega)).mono ?_
              rintro e w3 ⟨q3, rfl, hq30, hq31, hR3, hg3⟩
              have HS3 := hide (row_pickR HTo.out hblt hg3)
              have HG3 := hide (HGo.out.trans hg3)
              have HR3 := hide hR3
              have hz3 := HG3.out.size
              have hl3 := hR3.lt
              clear hg3 hR3
              by_cases hq : q3 = 0
              · subst hq
                have hmk : ∀ w, (Instr.makeSlice 54 (.int .i64 7) (.int .i64 7)).run Tryd.prog w = .ok (.slice (some ⟨w.heap.size, 0, none⟩) 7 7) (w.alloc (.cells (madeCells #[.int .i64 0, .int .i64 0] 14) 58)) := fun w => make_orders 7 (by omega) w
                go_wp2_with fail
                refine bodyPost_ret (results_tmp rfl _ _ _) rfl ⟨List.replicate 7 ⟨0, 0⟩, some ⟨w3.heap.size, 0, none⟩, 7, rfl, seven_orders w3 _ hz3, by simp, (HR3.out.kept (fun j hj => heap_alloc_old w3 _ (by have := HR3.out.lt; omega))).mono (by omega), HG3.out.trans (World.grownBy_alloc w3 _ _)⟩
              · have hqb : (q3 == 0) = false := beq_false_of_ne hq
                by_cases hq1 : q3 = 1
                · subst hq1
                  have HPK : Hid (∀ W, Below w3.heap.size w3 W → Calls Tryd.prog 65 #[.pointer (some ⟨b, 0, none⟩), .int .i64 2] W (Picked W b (n + 46) 2)) := hide (fun W hB => pick_any b _ 2 W ((rd_belowR HR3.out hB).mono (by omega)) (by omega) (by omega))
                  obtain ⟨M, A9, L9, c9, hmin, hsl1, hsl2, hA9, hrl9⟩ := tail_sliceR HS3.out
                  have HA9 := hide hA9
                  have HRL := hide hrl9
                  have hL95 : L9 ≤ 5 := by rw [← hrl9, List.length_drop]; omega
                  clear hA9 hrl9
                  go_wp2_with fail
                  go_region_law (first | (refine step_spread_tickM (by rfl) _ _ (by rfl) w.heap.size (.slice (some ⟨w5.heap.size, 0, none⟩) 1 1) [⟨u5, 0⟩] (by rfl) (order_litR (heap_alloc_new w5 _) hz5) A9 L9 c9 (ls.drop 1) HRL.out (by rfl) (HA9.out _ (OrderSl.orders (OrderSl.below HS5.out (by go_grown)))) (by simp <;> omega) (by simp <;> omega) ?_; intro AA cap w6 hown hgrow; have HOW := hide (And.intro hown (end_pushR HG5.out HR5.out (by go_grown) hgrow (Nat.le_refl _))); clear hown hgrow) | (refine step_spread_tickM (by rfl) _ _ (by rfl) w.heap.size (.slice (some ⟨w5.heap.size + 1, 0, none⟩) 1 1) [⟨u5, 0⟩] (by rfl) (order_litR (heap_twoR w5 _ _) (by omega)) A9 L9 c9 (ls.drop 1) HRL.out (by rfl) (HA9.out _ (OrderSl.orders (OrderSl.below HS5.out (by go_grown)))) (by simp <;> omega) (by simp <;> omega) ?_; intro AA cap w6 hown hgrow; have HOW := hide (And.intro hown (end_pushR HG5.out HR5.out (by go_grown) hgrow (by show w5.heap.size ≤ w5.heap.size + 1; omega))); clear hown hgrow) | (go_simp; go_at_call 65; refine (HPK.out _ (by go_grown)).mono ?_; rintro e w5 ⟨q5, rfl, hq50, hq51, hR5, hg5⟩; obtain ⟨j5, rfl⟩ : ∃ j5 : Nat, q5 = j5 := ⟨q5.toNat, by omega⟩; have hj5 : (j5 : Int) < 2 := (by omega); have hj6 : j5 < 2 := (by omega); obtain ⟨u5, hu5, hu6⟩ := pair_atR (a := -1) (b := 3) hj6; (try have hcA := cellAR HR3.out.lt hg5 hu5); have HG5 := hide ((grown_belowR HG3.out (by go_grown)).trans hg5); have HS5 := hide (row_pickR (OrderSl.below HS3.out (by go_grown)) hblt hg5); have HR5 := hide hR5; have hz5 := HG5.out.size; have hz35 : w3.heap.size ≤ w5.heap.size := (by have := hg5.size; simp at this; omega); clear hg5 hR5))
                  all_goals
                    go_wp2_with fail
                    refine bodyPost_ret (results_tmp rfl _ _ _) rfl ⟨[⟨u5, 0⟩] ++ ls.drop 1, AA, cap, by rw [List.length_append, HRL.out]; rfl, by rw [List.length_append, HRL.out]; exact HOW.out.1, by rw [List.length_append, HRL.out]; simp; omega, HOW.out.2.1.mono (by omega), HOW.out.2.2⟩
                · have hqb1 : (q3 == 1) = false := beq_false_of_ne hq1
                  go_wp2_with fail
                  refine (pick_any b _ 3 _ HR3.out (by omega) (by omega)).mono ?_
                  rintro e w4 ⟨q4, rfl, hq40, hq41, hR4, hg4⟩
                  have HG4 := hide (HG3.out.trans hg4)
                  have hz4 := HG4.out.size
                  have hl4 := hR4.lt
                  have HR4 := hide hR4
                  have HS4 : Hid (OrderSl (w4.alloc (.cells #[.int .i64 0, .int .i64 0, .int .i64 1, .int .i64 (1 + q4)] 58)) w.heap.size (.slice (some ⟨w4.heap.size, 0, none⟩) 2 2) [⟨0, 0⟩, ⟨1, 1 + q4⟩]) := hide (World.ownsRow_lit w4 #[.int .i64 0, .int .i64 0, .int .i64 1, .int .i64 (1 + q4)] 2 hz4 (by unfold maxLen; omega) rfl)
                  clear hg4 hR4
                  go_wp2_with fail
                  refine bodyPost_ret (results_tmp rfl _ _ _) rfl ⟨[⟨0, 0⟩, ⟨1, 1 + q4⟩], some ⟨w4.heap.size, 0, none⟩, 2, rfl, HS4.out, by simp, (HR4.out.kept (fun j hj => heap_alloc_old w4 _ (by omega))).mono (by omega), HG4.out.trans (World.grownBy_alloc w4 _ _)⟩
end Go.Proofs.YteocmjffjinphaaDoor
