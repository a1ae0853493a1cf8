/- InStill: a region that draws its order and only reads before its last operations, inside a round of a range over a function.
   Conditions: each operation hands back a value or nothing.
   Back: slices.Backward over a row of pointers to steps: the contract of its iterator.
   Conditions: the row has at most 1048576 elements.
   LateS: contract of StartsLate of the reference model.
   Conditions: lists have at most 1048576 elements.
   Delay: the contract of delay: each step begins as late as it can.
   Conditions: the tasks are valid.
   LateI: contract of StartsLate of the program.
   Conditions: lists have at most 1048576 elements. -/
import Derived.StillTail
import Derived.OrdersIn
import Derived.TacticsIn
import Derived.RangeFuncNested
import Derived.RangeFuncBound
import Derived.RangeFuncCalls
import Derived.RangeFuncLeaves
import Derived.Shelf.Abstract
import Derived.Shelf.RegionOpen
import Derived.WalkKit
import Derived.OwnWalkIn
import Derived.TacticsInMore
import Derived.LoopNIn
import Derived.LoopIn
import Derived.Test.YtgagfaajilbmmaaDoorSteps
import Derived.Test.YtgagfaajilbmmaaDoorTaskMath
import Derived.Test.YtgagfaajilbmmaaDoorZeros
import Derived.Test.YtgagfaajilbmmaaDoorEnds
namespace Go.Proofs.YtgagfaajilbmmaaDoor
open Go

/-- An operation that calls no function of Go and is carried out in a round as anywhere. -/
def Tame (P : Program) (o : Oper) : Prop := (∀ c, o.op ≠ .defer c) ∧ (∀ (ρ : Operand → Value) (w : World), o.about P w ρ = none) ∧ ∀ (ρ : Operand → Value) (w w' : World) (x : Next), (execOp ρ o).run P w = .ok x w' → (∃ v, x = .value v) ∨ x = .skip

theorem tame_op {F : Fence} {n : Nat} {P : Program} {o : Oper} {a : Act} {w : World} {K : Act → World → Prop} {Q : Exit → Act → World → Prop} (ht : Tame P o) (h : o.wp P a w K Q) : o.wpIn F n P a w K Q := by
  refine ⟨fun f hf => (by rw [ht.2.1] at hf; cases hf), ?_⟩
  rw [Oper.semAt_eq _ _ _ ht.1]
  unfold Oper.wp at h
  cases hr : (execOp a.eval o).run P w with
  | ok x w' =>
    rw [hr] at h
    rcases ht.2.2 _ _ _ _ hr with ⟨v, rfl⟩ | rfl
    · exact h
    · exact h
  | halt c w' =>
    rw [hr] at h
    cases c <;> exact h

theorem tame_wpOp {F : Fence} {n : Nat} {P : Program} {ops : Array Oper} {Q : Exit → Act → World → Prop} (hT : ∀ (i : Nat) o, ops[i]? = some o → Tame P o) (hQ : ¬ LetsOut Q) {i : Nat} {K K' : Act → World → Prop} (hK : ∀ a w, K a w → K' a w) {a : Act} {w : World} (h : wpOp P ops Q i K a w) : wpOpIn F n P ops Q i K' a w := by
  unfold wpOp at h
  unfold wpOpIn
  cases ho : ops[i]? with
  | none =>
    rw [ho] at h
    exact hK _ _ h
  | some o =>
    rw [ho] at h
    simp only at h ⊢
    by_cases hw : Region.wanted o (yielded ops a.tmps) = true
    · rw [if_pos hw] at h ⊢
      rcases h with h | ⟨-, h⟩
      · exact tame_op (hT i o ho) (Oper.wp_mono hK h)
      · exact absurd h hQ
    · rw [if_neg hw] at h ⊢
      exact ⟨fun f hf => (by rw [(hT i o ho).2.1] at hf; cases hf), hK _ _ h⟩

theorem tame_any {F : Fence} {n : Nat} {P : Program} {md : Region.Mode} {ops : Array Oper} {Q : Exit → Act → World → Prop} (hT : ∀ (i : Nat) o, ops[i]? = some o → Tame P o) (hQ : ¬ LetsOut Q) : ∀ (fuel : Nat) (listed : Array Bool) (a : Act) (w : World), wpAny P md ops Q fuel listed a w → wpAnyIn F n P md ops Q fuel listed a w
  | 0, _, _, _, h => h
  | fuel + 1, _, _, _, h => ⟨h.1, fun i hi => tame_wpOp hT hQ (fun a w hk => tame_any hT hQ fuel _ a w hk) (h.2 i hi)⟩

theorem wpIn_region_still {F : Fence} {n : Nat} {P : Program} {id : Nat} {Q : Exit → Act → World → Prop} {a : Act} {w : World} {l : List Oper} (m : Nat) (hm : P.follows .mixedOrders = true) (hB : Region.lexTailB .any l.toArray m = true)
    (hT : ∀ o ∈ l, Tame P o) (hQ : ¬ LetsOut Q)
    (h : wpStill P l.toArray { w with drawn := w.drawn + 1 } (fun a' => wpList P l.toArray Q (l.drop m) a' { w with drawn := w.drawn + 1 }) (l.take m) a) : (Code.region id l.toArray true).wpIn F n P Q a w := by
  simp only [Region.lexTailB, Bool.and_eq_true, decide_eq_true_eq] at hB
  obtain ⟨⟨⟨⟨hsel, hn⟩, hs⟩, hc⟩, hlex⟩ := hB
  have hn' : m < l.length := by simpa using hn
  have htl : (l.take m).length = m := by simp; omega
  have hdl : (l.drop m).length = l.toArray.size - m := by simp
  have inv0 : HeadInv .any l.toArray m (Array.replicate l.toArray.size false) :=
    ⟨by simp, fun j oj _ hl => (by rw [getD_replicate_false] at hl; cases hl), fun t _ ht => getD_in (by simpa using ht) (getD_replicate_false _ _)⟩
  have H := wpAnyL_lex (md := .any) (g := l.toArray.size - m) hsel hs hc hn (l.take m) 0 _ a (fun j hj => by
    have hj' : j < m := by rw [htl] at hj; exact hj
    simp [hj']) (by simpa using htl) inv0 (by rw [htl]; exact hlex) h
  refine wpIn_region_any hm ?_
  have := wpAny_of_head (Q' := Q) (g := l.toArray.size - m) (fun listed a' hL => by
    have := wpAny_of_seq (md := .any) (Q' := Q) (l.drop m) m listed a' { w with drawn := w.drawn + 1 } (fun j => by simp [List.getElem?_drop]) (by rw [hdl]; exact hL.1) hL.2
    rwa [hdl] at this) _ _ _ H
  rw [htl, show m + (l.toArray.size - m) = l.toArray.size by omega] at this
  exact tame_any (fun i o ho => hT o (by rw [List.getElem?_toArray] at ho; exact List.mem_of_getElem? ho)) hQ _ _ _ _ this

theorem run_val {P : Program} {s : Sem Value} {w w' : World} {x : Next} (h : (do pure (Next.value (← s)) : Sem Next).run P w = .ok x w') : ∃ v, x = .value v := by
  rw [Sem.run_bind] at h
  cases hs : s.run P w with
  | ok v w1 =>
    rw [hs] at h
    simp only [Result.andThen_ok, Sem.run_pure] at h
    injection h with h1 _
    exact ⟨v, h1.symm⟩
  | halt c w1 =>
    rw [hs] at h
    cases h
theorem run_unit {P : Program} {s : Sem Unit} {w w' : World} {x : Next} (h : (do s; pure Next.skip : Sem Next).run P w = .ok x w') : x = .skip := by
  rw [Sem.run_bind] at h
  cases hs : s.run P w with
  | ok v w1 =>
    rw [hs] at h
    simp only [Result.andThen_ok, Sem.run_pure] at h
    injection h with h1 _
    exact h1.symm
  | halt c w1 =>
    rw [hs] at h
    cases h
def tameB : Op → Bool
  | .move _ | .assign _ | .load _ _ | .store _ _ _ | .fieldAddr _ _ _ | .indexAddr _ _ _ | .binOp _ _ _ _ _ => true
  | _ => false
theorem tame_of {P : Program} {o : Oper} (h : tameB o.op = true) : Tame P o := by
  obtain ⟨dst, op, type, pos, after, guard⟩ := o
  cases op <;> simp only [tameB, Bool.false_eq_true] at h
  all_goals
    refine ⟨fun c e => (by cases e), fun ρ w => rfl, fun ρ w w' x hx => ?_⟩
  all_goals first
    | (have := run_val hx; exact .inl this)
    | (have := run_unit hx; exact .inr this)
    | (simp only [execOp, Sem.run_pure] at hx; injection hx with h1 _; exact .inl ⟨_, h1.symm⟩)
theorem bind_ok {α β : Type} {P : Program} {s : Sem α} {f : α → Sem β} {w w' : World} {x : β} (h : (s >>= f).run P w = .ok x w') : ∃ a w1, s.run P w = .ok a w1 ∧ (f a).run P w1 = .ok x w' := by
  rw [Sem.run_bind] at h
  cases hs : s.run P w with
  | ok v w1 =>
    rw [hs] at h
    exact ⟨v, w1, rfl, h⟩
  | halt c w1 =>
    rw [hs] at h
    cases h
theorem tame_nilCheck {P : Program} {o : Oper} {y : Operand} (h : o.op = .nilCheck y) : Tame P o := by
  obtain ⟨dst, op, type, pos, after, guard⟩ := o
  cases h
  refine ⟨fun c e => (by cases e), fun ρ w => rfl, fun ρ w w' x hx => ?_⟩
  simp only [execOp] at hx
  split at hx
  · simp [runtimePanic, go_sem] at hx
  · simp [runtimePanic, go_sem] at hx
  · simp [runtimePanic, go_sem] at hx
  · split at hx
    · simp [runtimePanic, go_sem] at hx
    · obtain ⟨_, _, -, hx⟩ := bind_ok hx
      obtain ⟨_, _, -, hx⟩ := bind_ok hx
      split at hx
      · obtain ⟨_, _, -, hx⟩ := bind_ok hx
        rw [Sem.run_pure] at hx
        injection hx with h1 _
        exact .inl ⟨_, h1.symm⟩
      · rw [Sem.run_pure] at hx
        injection hx with h1 _
        exact .inl ⟨_, h1.symm⟩
    · simp only [Sem.run_pure] at hx
      injection hx with h1 _
      exact .inl ⟨_, h1.symm⟩
  · simp only [Sem.run_pure] at hx
    injection hx with h1 _
    exact .inl ⟨_, h1.symm⟩
theorem tame_min {P : Program} {o : Oper} {y z : Operand} {ts : Array TypeId} (h : o.op = .call { callee := .builtin .min, args := #[y, z], argTypes := ts }) : Tame P o := by
  obtain ⟨dst, op, type, pos, after, guard⟩ := o
  cases h
  refine ⟨fun c e => (by cases e), fun ρ w => ?_, fun ρ w w' x hx => ?_⟩
  · simp [Oper.about, resolve, go_sem, Target.leads]
  · simp [go_sem] at hx
    cases hs : (Builtin.min_ ts type #[ρ y, ρ z]).run P w with
    | ok v w1 =>
      rw [hs] at hx
      simp only [Result.andThen_ok] at hx
      injection hx with h1 _
      exact .inl ⟨v, h1.symm⟩
    | halt c w1 =>
      rw [hs] at hx
      cases hx
end Go.Proofs.YtgagfaajilbmmaaDoor

namespace Go.Proofs.YtgagfaajilbmmaaDoor
open Go.RowKit Go.Shelf

attribute [local go_sem] Oper.semAt_some

/-- What the iterator reads between two rounds lies as it lay: its own box, and the row. -/
def KpAt (B b : Nat) (W W' : World) : Prop := ∀ k o : Nat, (k = B ∨ k = b) → W'.cell? ⟨k, o, none⟩ = W.cell? ⟨k, o, none⟩
theorem KpAt.trans {B b : Nat} {W1 W2 W3 : World} (h1 : KpAt B b W1 W2) (h2 : KpAt B b W2 W3) : KpAt B b W1 W3 := fun k o h => (h2 k o h).trans (h1 k o h)
theorem KpAt.refl (B b : Nat) (W : World) : KpAt B b W W := fun _ _ _ => rfl
/-- From the last one down to j. -/
def downs (n j : Nat) : List Nat := (List.range (n - j)).map (fun t => n - 1 - t)
theorem downs_nil (n : Nat) : downs n n = [] := by simp [downs]
theorem downs_succ {n j : Nat} (h : j < n) : downs n (j + 1) ++ [j] = downs n j := by
  unfold downs
  rw [show n - j = (n - (j + 1)) + 1 from by omega, List.range_succ, List.map_append]
  simp
  omega
theorem downs_len (n j : Nat) : (downs n j).length = n - j := by simp [downs]

set_option maxRecDepth 100000 in
set_option maxHeartbeats 2000000 in
theorem back1_in (F : Fence) (n : Nat) (hF : F.fn 127) (hro : F.round = none) (hn : 1 ≤ n) (l Bs b len cap : Nat) (G : Nat → Nat) (hlen : len ≤ 1048576) (J Jx : List (Fin len) → World → Prop)
    (hY : ∀ (pre : List (Fin len)) (x : Fin len) W, J pre W → pre.length < len → YieldAt F (n - 1) Tryd.prog l #[.int .i64 ((x.val : Nat) : Int), .pointer (some ⟨G x.val, 0, none⟩)] W fun e W' =>
      (e = .returned (.bool true) ∧ J (pre ++ [x]) W' ∧ KpAt Bs b W W') ∨ (e = .returned (.bool false) ∧ Jx (pre ++ [x]) W'))
    (W : World) (hBs : W.cell? ⟨Bs, 0, none⟩ = some (.slice (some ⟨b, 0, none⟩) len cap)) (hc : ∀ j, j < len → W.cell? ⟨b, j, none⟩ = some (.pointer (some ⟨G j, 0, none⟩))) (h0 : J [] W) :
    CallsIn F n Tryd.prog 127 #[.func (.yield l) #[] #[], .pointer (some ⟨Bs, 0, none⟩)] W fun e W' => (∃ v, e = .returned v) ∧
      ((∃ ys, ys.map (·.val) = downs len 0 ∧ J ys W') ∨ (∃ pre, True ∧ Jx pre W')) := by
  refine callsIn_of_wp Tryd.func127 rfl hF ?_ hro
  simp only [Tryd.ntmps127, List.size_toArray, List.length_cons, List.length_nil, Nat.reduceAdd, Nat.reduceSub, Array.replicate_succ, Array.replicate_zero, List.push_toArray, List.append_toArray, List.nil_append, List.cons_append]
  gi_wp2
  gi_loopw [3] (fun i wr => ∃ j : Nat, j ≤ len ∧ i = .int .i64 ((j : Int) - 1) ∧ (∃ pre, pre.map (·.val) = downs len j ∧ J pre wr) ∧ KpAt Bs b W wr)
    (fun i _ => (intOf i + 1).toNat)
  case atStart => exact ⟨len, Nat.le_refl _, by first | rfl | simp, ⟨[], by rw [downs_nil]; rfl, h0⟩, KpAt.refl _ _ _⟩
  case round =>
    obtain ⟨j, hj, rfl, ⟨pre, hpre, hJs⟩, hK⟩ := hrel
    have hbx := (hK Bs 0 (.inl rfl)).trans hBs
    cases j with
    | zero =>
      gi_wp2
      go_end0
      exact ⟨⟨_, rfl⟩, .inl ⟨_, hpre, hJs⟩⟩
    | succ j =>
      have hcx := (hK b j (.inr rfl)).trans (hc j (by omega))
      obtain ⟨fn, tmps, assign, body, hy, hR⟩ := hY pre ⟨j, by omega⟩ wr hJs (by have := congrArg List.length hpre; rw [List.length_map, downs_len] at this; omega)
      dsimp only at hy
      have hji : ((j + 1 : Nat) : Int) - 1 = (j : Int) := by omega
      have hz : (0 : Int) ≤ j := by omega
      have hz2 : (j : Int) < len := by omega
      rw [hji]
      gi_wp2
      refine hR.mono ?_
      rintro e W3 (⟨rfl, hJ3, hk3⟩ | ⟨rfl, hJx3⟩)
      · gi_wp2
        go_roundw
        case rel => exact ⟨j, by omega, by first | rfl | simp, ⟨_, by rw [List.map_append, hpre, ← downs_succ (show j < len by omega)]; rfl, hJ3⟩, hK.trans hk3⟩
        case measure => simp [intOf]
      · gi_wp2
        refine bodyPost_ret (results_none rfl _ _ _) rfl ?_
        exact ⟨⟨_, rfl⟩, .inr ⟨_, trivial, hJx3⟩⟩

set_option maxHeartbeats 1000000 in
theorem backward_in (F : Fence) (n : Nat) (hF : F.fn 110) (hro : F.round = none) (a : Option Addr) (len cap : Nat) (w : World) :
    CallsIn F n Tryd.prog 110 #[.slice a len cap] w fun e w' => e = .returned (.func (.func 127) #[] #[.pointer (some ⟨w.heap.size, 0, none⟩)]) ∧ w' = w.alloc (.cells #[.slice a len cap] 91) := by
  refine callsIn_of_wp Tryd.func110 rfl hF ?_ hro
  simp only [Tryd.ntmps110, List.size_toArray, List.length_cons, List.length_nil, Nat.reduceAdd, Nat.reduceSub, Array.replicate_succ, Array.replicate_zero, List.push_toArray, List.append_toArray, List.nil_append, List.cons_append]
  gi_wp2
  go_ret
  exact ⟨rfl, rfl⟩

theorem backward_stops (F : Fence) (n : Nat) (hF : F.fn 127) (hro : F.round = none) (hn : 1 ≤ n) (Bs b len cap : Nat) (G : Nat → Nat) (hlen : len ≤ 1048576) (w : World) (hB : Bs < w.heap.size) (hb : b < w.heap.size)
    (hBs : w.cell? ⟨Bs, 0, none⟩ = some (.slice (some ⟨b, 0, none⟩) len cap)) (hc : ∀ j, j < len → w.cell? ⟨b, j, none⟩ = some (.pointer (some ⟨G j, 0, none⟩))) :
    SeqStopsK F n Tryd.prog 127 #[.pointer (some ⟨Bs, 0, none⟩)] (fun x : Fin len => #[Value.int .i64 ((x.val : Nat) : Int), .pointer (some ⟨G x.val, 0, none⟩)]) (KpAt Bs b) (fun ys => ys.map (·.val) = downs len 0) (fun _ => True) len w := fun l J Jx W hW _ _ hY h0 =>
  back1_in F n hF hro hn l Bs b len cap G hlen J Jx hY W ((hW.cell (p := ⟨Bs, 0, none⟩) hB).trans hBs) (fun j hj => (hW.cell (p := ⟨b, j, none⟩) hb).trans (hc j hj)) h0
end Go.Proofs.YtgagfaajilbmmaaDoor

namespace Go.Proofs.YtgagfaajilbmmaaDoor
open Go.RowKit Go.ChangeShapes Go.WideShapes Go.ChangeAt Go.Deep

theorem late_no {l : List Task} (h : tasksOk l = false) : startsLateL l = [] := by unfold startsLateL; rw [if_neg (by rw [h]; decide)]
/-- What the latest times are while they are found. -/
structure LateB (l : List Task) (B : Int) (out : List Int) : Prop where
  len : out.length = l.length
  rng : ∀ t ∈ out, B ≤ t ∧ t ≤ 210
theorem LateB.at_ {l : List Task} {B : Int} {out : List Int} (h : LateB l B out) {i : Nat} (hi : i < l.length) : B ≤ out.getD i 0 ∧ out.getD i 0 ≤ 210 := by
  have hl : i < out.length := by rw [h.len]; exact hi
  have := h.rng _ (List.getElem_mem hl)
  simpa [hl] using this
theorem LateB.put {l : List Task} {B v : Int} {out : List Int} (h : LateB l B out) (a : Nat) (h0 : B ≤ v) (h1 : v ≤ 210) : LateB l B (out.set a v) :=
  ⟨by rw [List.length_set]; exact h.len, fun t ht => by
    rcases List.mem_or_eq_of_mem_set ht with ht | rfl
    · exact h.rng t ht
    · exact ⟨h0, h1⟩⟩
theorem LateB.low {l : List Task} {B C : Int} {out : List Int} (h : LateB l B out) (hB : C ≤ B) : LateB l C out := ⟨h.len, fun t ht => by have := h.rng t ht; omega⟩
theorem late_first {l : List Task} (h : tasksOk l = true) : LateB l (-30) (l.map (fun x => tasksEndL l - x.span)) :=
  ⟨by simp, fun t ht => by
    obtain ⟨x, hx, rfl⟩ := List.mem_map.1 ht
    have a := tasks_span h x hx
    have b := end_nn h
    have c := end_top h
    omega⟩

set_option maxRecDepth 100000 in
set_option maxHeartbeats 4000000 in
theorem specStartsLate_any (A : Option Addr) (c : Nat) (l : List Task) (w : World) (hA : TasksAt w A l) (hl : l.length ≤ 1048576) (hp : ∀ x ∈ l, x.after.length ≤ 1048576) :
    Calls Tryd.prog 28 #[.slice A l.length c] w fun e w' => ∃ v, e = .returned v ∧ IntSl w' w.heap.size v (startsLateL l) ∧ Below w.heap.size w w' := by
  have HP := hide hp
  clear hp
  have hO0 : IntSl (w.alloc (.cells #[] 3)) w.heap.size (.slice (some ⟨w.heap.size, 0, none⟩) 0 0) [] := World.ownsRow_lit w #[] 0 (Nat.le_refl _) (by unfold maxLen; omega) rfl
  have HO0 := hide hO0
  have hba : Below w.heap.size w (w.alloc (.cells #[] 3)) := by go_grown
  have HA0 := hide (hA.below hba)
  clear hO0
  cases hI : tasksOk l with
  | false =>
    have H3 := hide (late_no hI)
    have HE : Hid (tasksEndL l = -1) := hide (by unfold tasksEndL; rw [hI]; rfl)
    clear hI
    go_enter Tryd.func28, Tryd.ntmps28
    go_wp2_with fail
    refine (specTasksEnd_any _ _ _ _ HA0.out hl HP.out).mono ?_
    rintro e w1 ⟨rfl, hB1⟩
    rw [HE.out]
    have HP1 := hide (IntSl.below HO0.out hB1)
    have hb1 := next hba hB1
    go_wp2_with fail
    go_loopw [3, 5] (fun ov i wr => ov = .slice (some ⟨w.heap.size, 0, none⟩) 0 0 ∧ i = .int .i64 0 ∧ IntSl wr w.heap.size (.slice (some ⟨w.heap.size, 0, none⟩) 0 0) [] ∧ Below w.heap.size w wr) (fun _ _ _ => 0)
    case atStart => exact ⟨rfl, rfl, HP1.out, hb1⟩
    case round =>
      clear HP1 hb1
      obtain ⟨rfl, rfl, hP, hb⟩ := hrel
      have HP2 := hide hP
      clear hP
      go_wp2_with fail
      all_goals
        go_loopw [6] (fun i wr => i = .int .i64 (-1) ∧ IntSl wr w.heap.size (.slice (some ⟨w.heap.size, 0, none⟩) 0 0) [] ∧ Below w.heap.size w wr) (fun _ _ => 0)
        case atStart => first | exact ⟨rfl, HP2.out, hb⟩ | exact ⟨by simp, HP2.out, hb⟩
        case round =>
          clear HP2 hb
          obtain ⟨rfl, hP, hb⟩ := hrel
          have HP3 := hide hP
          clear hP
          go_wp2_with fail
          refine bodyPost_ret (results_tmp rfl _ _ _) rfl ⟨_, rfl, by rw [H3.out]; exact HP3.out, hb⟩
  | true =>
    have HI := hide hI
    have h7 := tasksOk_len hI
    obtain ⟨en, HE⟩ : ∃ en, Hid (tasksEndL l = en) := ⟨_, hide rfl⟩
    have he0 : 0 ≤ en := by rw [← HE.out]; exact end_nn hI
    have he1 : en ≤ 210 := by rw [← HE.out]; exact end_top hI
    have H0 : Hid (startsLateL l = lateGo l l.length (l.map (fun x => en - x.span))) := hide (by unfold startsLateL; rw [if_pos hI, HE.out])
    have HF0 : Hid (LateB l (-30) (l.map (fun x => en - x.span))) := hide (by rw [← HE.out]; exact late_first hI)
    have HSPN := hide (tasks_span hI)
    clear hI
    go_enter Tryd.func28, Tryd.ntmps28
    go_wp2_with fail
    refine (specTasksEnd_any _ _ _ _ HA0.out hl HP.out).mono ?_
    rintro e w1 ⟨rfl, hB1⟩
    rw [HE.out]
    have HP1 := hide (IntSl.below HO0.out hB1)
    have hb1 := next hba hB1
    clear HO0 HA0 hba hB1
    go_wp2_with fail
    go_loopw [3, 5] (fun ov i wr => ∃ (k g cap : Nat) (out : List Int), k ≤ l.length ∧ i = .int .i64 k ∧ ov = .slice (some ⟨g, 0, none⟩) k cap ∧ Hid (out.length = k ∧ out = (l.map (fun x => en - x.span)).take k) ∧ IntSl wr w.heap.size (.slice (some ⟨g, 0, none⟩) k cap) out ∧ Below w.heap.size w wr) (fun _ i _ => l.length - (intOf i).toNat)
    case atStart => exact ⟨0, w.heap.size, 0, [], Nat.zero_le _, rfl, rfl, hide ⟨rfl, rfl⟩, HP1.out, hb1⟩
    case round =>
      clear HP1 hb1
      obtain ⟨k, g, cap, out, hk, rfl, rfl, HF, hS, hb⟩ := hrel
      have hsz := hb.size
      by_cases hlt : k < l.length
      · obtain ⟨x, HX⟩ : ∃ x, Hid (l[k]? = some x) := ⟨_, hide (List.getElem?_eq_getElem hlt)⟩
        obtain ⟨b, off, C, d, rfl, hbl, hc1, hc2, hpa⟩ := (hA.below hb) k x HX.out
        have hsp := HSPN.out x (List.mem_of_getElem? HX.out)
        have HT2 : Hid ((out ++ [en - x.span]).length = k + 1 ∧ out ++ [en - x.span] = (l.map (fun x => en - x.span)).take (k + 1)) := hide (by
          have hx : (l.map (fun x => en - x.span))[k]? = some (en - x.span) := by rw [List.getElem?_map, HX.out]; rfl
          obtain ⟨hk', e⟩ := List.getElem?_eq_some_iff.1 hx
          refine ⟨by rw [List.length_append, HF.out.1]; rfl, ?_⟩
          rw [List.take_succ_eq_append_getElem hk', e, ← HF.out.2])
        have HLN := hide HF.out.1
        have hlo : out.length ≤ 1048576 := by rw [HLN.out]; omega
        have HSA := hide (World.ownsRow.alloc hS (.cells #[.int .i64 (en - x.span)] 3))
        have HBA := hide (hb.alloc hsz (.cells #[.int .i64 (en - x.span)] 3))
        have HLT := hide (World.ownsRow.lt hS)
        have hz : (0 : Int) ≤ k := by omega
        have hz2 : (k : Int) < l.length := by omega
        obtain ⟨hs0, hs1⟩ := hsp
        clear hS hc2 hpa
        go_wp2_with (at_builtin; refine wpList_push_int rfl _ _ rfl w.heap.size (.slice (some ⟨g, 0, none⟩) k cap) out rfl HSA.out wr.heap.size (en - x.span) rfl (heap_alloc_new wr _) (by omega) (by simp; omega) ?_; intro g5 cap5 w5 hown hgrow hnew)
        have hb5 : Below w.heap.size w w5 := HBA.out.grown hgrow (by simp; omega) (fun k hk => (HLT.out k hk).1)
        rw [HLN.out] at hown ⊢
        clear hgrow hnew
        go_wp2_with fail
        go_roundw
        case rel => exact ⟨k + 1, g5, cap5, out ++ [en - x.span], hlt, by go_num, rfl, HT2, hown, hb5⟩
        case measure => simp [intOf]; omega
      · obtain ⟨n, hn⟩ : ∃ n : Nat, l.length = n := ⟨_, rfl⟩
        obtain rfl : k = n := by omega
        have HLN := hide hn
        have HOUT : Hid (out = l.map (fun x => en - x.span)) := hide (by rw [HF.out.2, List.take_of_length_le (by simp; omega)])
        have HF1 : Hid (LateB l (-30) out) := hide (by rw [HOUT.out]; exact HF0.out)
        have H1 : Hid (startsLateL l = lateGo l k out) := hide (by rw [H0.out, HOUT.out, hn])
        have HS := hide hS
        have hk7 : k ≤ 7 := by omega
        rw [hn] at hk hlt ⊢
        have hll : ¬ ((k : Int) < k) := by omega
        clear hS HOUT HF HF0 H0 hn
        go_wp2_with fail
        go_loopw [6] (fun iv wr => ∃ (j : Nat) (o : List Int), j ≤ k ∧ iv = .int .i64 ((j : Int) - 1) ∧ Hid (startsLateL l = lateGo l j o) ∧ Hid (LateB l (-30 * ((k : Int) - j + 1)) o) ∧ IntSl wr w.heap.size (.slice (some ⟨g, 0, none⟩) k cap) o ∧ Below w.heap.size w wr) (fun iv _ => (intOf iv + 1).toNat)
        case atStart => exact ⟨k, out, Nat.le_refl _, by first | rfl | simp, H1, hide (HF1.out.low (by omega)), HS.out, hb⟩
        case round =>
          clear H1 HF1 HS hb hsz
          obtain ⟨j, o, hj, rfl, HG, HB, hS, hb⟩ := hrel
          have hsz := hb.size
          cases j with
          | zero =>
            have H3 : Hid (startsLateL l = o) := hide (by rw [HG.out]; rfl)
            go_wp2_with fail
            refine bodyPost_ret (results_tmp rfl _ _ _) rfl ⟨_, rfl, by rw [H3.out]; exact hS, hb⟩
          | succ j =>
            obtain ⟨x, HX⟩ : ∃ x, Hid (l[j]? = some x) := ⟨_, hide (List.getElem?_eq_getElem (by rw [HLN.out]; omega))⟩
            obtain ⟨b, off, C, d, rfl, hbl, hc1, hc2, hpa⟩ := (hA.below hb) j x HX.out
            have HG2 : Hid (startsLateL l = lateGo l j (lateRow l j o x.after)) := hide (by rw [HG.out, lateGo, getDT_at HX.out])
            have hx : x.after.length ≤ 1048576 := HP.out _ (List.mem_of_getElem? HX.out)
            have HT : Hid (∀ a ∈ x.after, 0 ≤ a ∧ a < (j : Int)) := hide (tasksOk_at HI.out HX.out).2
            have HC2 := hide hc2
            have HPA := hide hpa
            obtain ⟨ok, HOK⟩ : ∃ ok, Hid (o.getD j 0 = ok) := ⟨_, hide rfl⟩
            have hokr := HB.out.at_ (i := j) (by rw [HLN.out]; omega)
            rw [HOK.out] at hokr
            obtain ⟨hok0, hok1⟩ := hokr
            have hji : ((j + 1 : Nat) : Int) - 1 = (j : Int) := by omega
            have hok0' : -30 * ((k : Int) - j) ≤ ok := by omega
            have HB1 : Hid (LateB l (-30 * ((k : Int) - j) - 30) o) := hide (HB.out.low (by omega))
            have hz : (0 : Int) ≤ j := by omega
            have hz2 : (j : Int) < k := by omega
            have HS := hide hS
            clear hS hc1 hc2 hpa HB HG hok0
            rw [hji]
            go_wp2_with fail
            obtain ⟨wo, hwo⟩ : ∃ wo : World, wo = wr := ⟨_, rfl⟩
            rw [← hwo] at hbl HC2 HPA
            have HWO := hide (show Below w.heap.size w wo by rw [hwo]; exact hb)
            have HWB : Hid (Below wo.heap.size wo wr) := hide (by rw [hwo]; exact Below.refl _ _)
            clear hwo
            go_loopw [7] (fun iv wr => ∃ (i : Nat) (o2 : List Int), i ≤ x.after.length ∧ iv = .int .i64 i ∧ Hid (lateRow l j o x.after = lateRow l j o2 (x.after.drop i)) ∧ Hid (LateB l (-30 * ((k : Int) - j) - 30) o2) ∧ Hid (o2.getD j 0 = ok) ∧ IntSl wr w.heap.size (.slice (some ⟨g, 0, none⟩) k cap) o2 ∧ Below w.heap.size w wr) (fun iv _ => x.after.length - (intOf iv).toNat)
            case atStart => exact ⟨0, o, Nat.zero_le _, rfl, hide rfl, HB1, HOK, HS.out, hb⟩
            case round =>
              clear HS HB1 HOK HWB hb hsz
              obtain ⟨i, o2, hi, rfl, HR, HB, HOK, hS, hb⟩ := hrel
              have hsz := hb.size
              obtain ⟨b', off', C', d', hA', hbl', hc1, hc2', hpa'⟩ := (hA.below hb) j x HX.out
              injection hA' with hA'
              injection hA' with e1 e2
              subst e1 e2
              have hc2 := hc2'
              by_cases hit : i < x.after.length
              · obtain ⟨a, HAJ⟩ : ∃ a, Hid (x.after[i]? = some a) := ⟨_, hide (List.getElem?_eq_getElem hit)⟩
                obtain ⟨b2, off2, rfl, hbl2, hd⟩ := hpa' i a HAJ.out
                have HDJ : Hid (x.after.drop i = a :: x.after.drop (i + 1)) := hide (by
                  have := HAJ.out
                  rw [List.getElem?_eq_getElem hit] at this
                  injection this with this
                  rw [List.drop_eq_getElem_cons hit, this])
                obtain ⟨m, rfl, hmk⟩ : ∃ m : Nat, a = m ∧ m < j := by
                  have := HT.out a (List.mem_of_getElem? HAJ.out)
                  exact ⟨a.toNat, by omega, by omega⟩
                obtain ⟨y, HY⟩ : ∃ y, Hid (l[m]? = some y) := ⟨_, hide (List.getElem?_eq_getElem (by rw [HLN.out]; omega))⟩
                obtain ⟨b3, off3, C3, d3, hA3, hbl3, hy1, -, -⟩ := (hA.below hb) m y HY.out
                injection hA3 with hA3
                injection hA3 with e1 e2
                subst e1 e2
                obtain ⟨hy2, hy3⟩ := HSPN.out y (List.mem_of_getElem? HY.out)
                have hlen := HB.out.len
                obtain ⟨om, HOM⟩ : ∃ om, Hid (o2[m]? = some om) := ⟨_, hide (List.getElem?_eq_getElem (by rw [hlen, HLN.out]; omega))⟩
                have hjo : o2[j]? = some ok := by
                  have h := List.getElem?_eq_getElem (show j < o2.length by rw [hlen, HLN.out]; omega)
                  have := HOK.out
                  rw [getDT_at h] at this
                  rw [h, this]
                obtain ⟨hm0r, hm1r⟩ := HB.out.rng om (List.mem_of_getElem? HOM.out)
                have hcm := hS.cellAt HOM.out
                have hcj := hS.cellAt hjo
                have hfz := hS.frozenAt m
                obtain ⟨nv, hnv⟩ : ∃ nv, (if ok - y.span < om then ok - y.span else om) = nv := ⟨_, rfl⟩
                have hnvr : -30 * ((k : Int) - j) - 30 ≤ nv ∧ nv ≤ 210 := by rw [← hnv]; split <;> omega
                have HR2 : Hid (lateRow l j o x.after = lateRow l j (o2.set m nv) (x.after.drop (i + 1))) := hide (by
                  rw [HR.out, HDJ.out, lateRow, HOK.out, Int.toNat_natCast, getDT_at HOM.out, spanAt, getDT_at HY.out, hnv])
                have HB2 := hide (HB.out.put m hnvr.1 hnvr.2)
                have HOK2 : Hid ((o2.set m nv).getD j 0 = ok) := hide (by
                  rw [List.getD_eq_getElem?_getD, List.getElem?_set_ne (by omega), ← List.getD_eq_getElem?_getD]
                  exact HOK.out)
                have HSS := hide (IntSl.store hS m nv)
                have hgs := IntSl.grownSet hS m nv
                have hgl := (World.ownsRow.lt hS g rfl).1
                have HBS := hide (hb.grown hgs hsz (fun k hk => by injection hk with hk; omega))
                have hv : (0 : Int) ≤ i := by omega
                have hv2 : (i : Int) < x.after.length := by omega
                have hm0 : (0 : Int) ≤ m := by omega
                have hm1 : (m : Int) < l.length := by rw [HLN.out]; omega
                have hm2 : (m : Int) < k := by omega
                have hjl : (j : Int) < l.length := by rw [HLN.out]; omega
                have hws : IntKind.i64.wrap (ok - y.span) = ok - y.span := IntWalk.i64_in _ (by omega)
                clear hS hgs hgl hjo hlen hnvr hpa'
                go_wp2_with fail
                refine still_tail_drew 18 (by kernel_rfl) (by kernel_rfl) ?_
                simp only [List.take_succ_cons, List.take_zero, List.drop_succ_cons, List.drop_zero]
                repeat still_step
                refine wpStill_nil ?_
                go_wp2_with fail
                go_roundw
                case rel => exact ⟨i + 1, o2.set m nv, hit, by go_num, HR2, HB2, HOK2, IntSl.drew HSS.out, HBS.out.drew⟩
                case measure => simp [intOf]; omega
              · have H3 : Hid (startsLateL l = lateGo l j o2) := hide (by rw [HG2.out, HR.out, List.drop_of_length_le (by omega), lateRow])
                have HS2 := hide hS
                have hjl : (j : Int) < l.length := by rw [HLN.out]; omega
                clear hS hpa'
                go_wp2_with fail
                go_roundw
                case rel => exact ⟨j, o2, by omega, by first | rfl | simp, H3, hide (HB.out.low (by omega)), HS2.out, hb⟩
                case measure => simp [intOf]
end Go.Proofs.YtgagfaajilbmmaaDoor

namespace Go.Proofs.YtgagfaajilbmmaaDoor
open Go.RowKit Go.Shelf

attribute [local go_sem] Oper.semAt_some

theorem StepsR.apart {w : World} {lo n : Nat} {l : List Task} {o : List Int} {G H : Nat → Nat} (h : StepsR w lo l o n G H) (hn : n ≤ l.length) (ho : n ≤ o.length) {i k : Nat} (hi : i < n) (hk : k < n) : H i ≠ G k ∧ (i ≠ k → G i ≠ G k) := by
  obtain ⟨-, a2, a3, -, -⟩ := h i _ _ hi (List.getElem?_eq_getElem (show i < l.length by omega)) (List.getElem?_eq_getElem (show i < o.length by omega))
  obtain ⟨-, b2, b3, -, -⟩ := h k _ _ hk (List.getElem?_eq_getElem (show k < l.length by omega)) (List.getElem?_eq_getElem (show k < o.length by omega))
  rcases Nat.lt_trichotomy i k with e | e | e
  · have := b3 i e
    exact ⟨by omega, fun _ => by omega⟩
  · subst e
    exact ⟨by omega, fun hh => absurd rfl hh⟩
  · have := a3 k e
    exact ⟨by omega, fun _ => by omega⟩
theorem StepsR.set {w : World} {lo n k : Nat} {l : List Task} {o : List Int} {G H : Nat → Nat} {v : Int} (h : StepsR w lo l o n G H) (hn : n ≤ l.length) (ho : n ≤ o.length) (hk : k < n) : StepsR (w.setCell ⟨G k, 1, none⟩ (.int .i64 v)) lo l (o.set k v) n G H := fun i x s hi hx hs => by
  have hap := h.apart hn ho hi hk
  by_cases e : i = k
  · subst e
    rw [List.getElem?_set_self (by omega)] at hs
    injection hs with hs
    subst hs
    obtain ⟨h1, h2, h3, h4, h5⟩ := h i x _ hi hx (List.getElem?_eq_getElem (show i < o.length by omega))
    exact ⟨h1, h2, h3, stepRow_set h4, h5.far hap.1 _⟩
  · rw [List.getElem?_set_ne (fun e' => e e'.symm)] at hs
    obtain ⟨h1, h2, h3, h4, h5⟩ := h i x s hi hx hs
    exact ⟨h1, h2, h3, World.rowIs.setOther h4 (hap.2 e) _, h5.far hap.1 _⟩
theorem StepsR.gt {w : World} {lo n i : Nat} {l : List Task} {o : List Int} {G H : Nat → Nat} (h : StepsR w lo l o n G H) (hn : n ≤ l.length) (ho : n ≤ o.length) (hi : i < n) : lo < G i ∧ G i < w.heap.size := by
  obtain ⟨a1, a2, a3, a4, -⟩ := h i _ _ hi (List.getElem?_eq_getElem (show i < l.length by omega)) (List.getElem?_eq_getElem (show i < o.length by omega))
  exact ⟨by omega, World.rowIs.lt a4⟩
theorem kpAt_put {B b q : Nat} {W : World} {o : Obj} (h1 : B ≠ q) (h2 : b ≠ q) : KpAt B b W (W.putObj q o) := fun k j h => by
  rcases h with rfl | rfl
  · exact World.cell?_of_block (a := ⟨k, j, none⟩) (World.putObj_heap_other (by first | exact h1 | exact h1.symm))
  · exact World.cell?_of_block (a := ⟨k, j, none⟩) (World.putObj_heap_other (by first | exact h2 | exact h2.symm))
/-- A change of what is no cells leaves rows as they are. -/
theorem rowIs_turn {A B : World} {b : Nat} {T : TypeId} {n : Nat} {f : Nat → Value} {row : Option Nat} (h : A.rowIs b T n f) (hg : A.grownBy B row) (hr : ∀ r, row = some r → ∃ o : Obj, A.heap[r]? = some o ∧ o.isCells = false) : B.rowIs b T n f := by
  obtain ⟨cs, hb, h1, h2⟩ := h
  refine World.rowIs.of_block ⟨cs, hb, h1, h2⟩ (hg.block b (Array.getElem?_eq_some_iff.1 hb).1 (fun e => ?_))
  obtain ⟨o, ho, hc⟩ := hr b e.symm
  rw [hb] at ho
  injection ho with ho
  subst ho
  cases hc
theorem StepsR.turn {A B : World} {lo k : Nat} {l : List Task} {ss : List Int} {G H : Nat → Nat} {row : Option Nat} (h : StepsR A lo l ss k G H) (hg : A.grownBy B row) (hr : ∀ r, row = some r → ∃ o : Obj, A.heap[r]? = some o ∧ o.isCells = false) : StepsR B lo l ss k G H := fun i x s hi hx hs => by
  obtain ⟨h1, h2, h3, h4, h5⟩ := h i x s hi hx hs
  exact ⟨h1, h2, h3, rowIs_turn h4 hg hr, rowIs_turn h5 hg hr⟩

theorem late_firstE {l : List Task} {en : Int} (h : tasksOk l = true) (h0 : 0 ≤ en) (h1 : en ≤ 210) : LateB l (-30) (l.map (fun x => en - x.span)) :=
  ⟨by simp, fun t ht => by
    obtain ⟨x, hx, rfl⟩ := List.mem_map.1 ht
    have a := tasks_span h x hx
    omega⟩
/-- The latest times as they are found, whatever is handed over. -/
def lateRowW (l : List Task) (k : Nat) : List Int → List Int → List Int
  | out, [] => out
  | out, a :: r => lateRowW l k (out.set a.toNat (if IntKind.i64.wrap (out.getD k 0 - spanAt l a.toNat) < out.getD a.toNat 0 then IntKind.i64.wrap (out.getD k 0 - spanAt l a.toNat) else out.getD a.toNat 0)) r
def lateRun (l : List Task) (o : List Int) (ks : List Nat) : List Int := ks.foldl (fun o k => lateRowW l k o (l.getD k default).after) o
theorem lateRowW_len (l : List Task) (k : Nat) : ∀ (xs out : List Int), (lateRowW l k out xs).length = out.length
  | [], _ => rfl
  | a :: r, out => by rw [lateRowW, lateRowW_len l k r, List.length_set]
theorem lateRun_snoc (l : List Task) (o : List Int) (ks : List Nat) (k : Nat) : lateRun l o (ks ++ [k]) = lateRowW l k (lateRun l o ks) (l.getD k default).after := by
  unfold lateRun
  rw [List.foldl_append]
  rfl
theorem lateRowW_eq {l : List Task} {k : Nat} {B : Int} (hl : ∀ y ∈ l, 0 ≤ y.span ∧ y.span ≤ 30) (hk : k < l.length) (hB : -10000 ≤ B) : ∀ (xs out : List Int), (∀ a ∈ xs, 0 ≤ a ∧ a < (k : Int)) → LateB l B out → B + 30 ≤ out.getD k 0 → lateRowW l k out xs = lateRow l k out xs ∧ LateB l B (lateRow l k out xs)
  | [], out, _, hb, _ => ⟨rfl, hb⟩
  | a :: r, out, hx, hb, hok => by
    have ha := hx a (by simp)
    have hka := hb.at_ hk
    have haa := hb.at_ (i := a.toNat) (by omega)
    have hsp : 0 ≤ spanAt l a.toNat ∧ spanAt l a.toNat ≤ 30 := getD_span hl a.toNat
    have hw : IntKind.i64.wrap (out.getD k 0 - spanAt l a.toNat) = out.getD k 0 - spanAt l a.toNat := IntWalk.i64_in _ (by omega)
    rw [lateRowW, lateRow, hw]
    obtain ⟨v, hv⟩ : ∃ v, (if out.getD k 0 - spanAt l a.toNat < out.getD a.toNat 0 then out.getD k 0 - spanAt l a.toNat else out.getD a.toNat 0) = v := ⟨_, rfl⟩
    have hvr : B ≤ v ∧ v ≤ 210 := by rw [← hv]; split <;> omega
    rw [hv]
    refine lateRowW_eq hl hk hB r _ (fun b hb' => hx b (by simp [hb'])) (hb.put _ hvr.1 hvr.2) ?_
    rw [List.getD_eq_getElem?_getD, List.getElem?_set_ne (by omega), ← List.getD_eq_getElem?_getD]
    exact hok
theorem downs_cons (k : Nat) : downs (k + 1) 0 = k :: downs k 0 := by
  unfold downs
  simp only [Nat.sub_zero]
  rw [List.range_succ_eq_map, List.map_cons, List.map_map]
  congr 1
  refine List.map_congr_left (fun t _ => ?_)
  simp only [Function.comp]
  omega
theorem lateRun_go {l : List Task} (h : tasksOk l = true) : ∀ (k : Nat) (o : List Int), k ≤ l.length → LateB l (-30 * ((l.length : Int) - k + 1)) o → lateRun l o (downs k 0) = lateGo l k o
  | 0, o, _, _ => rfl
  | k + 1, o, hk, hb => by
    have h7 := tasksOk_len h
    have hx := List.getElem?_eq_getElem (show k < l.length by omega)
    have hr := lateRowW_eq (k := k) (B := -30 * ((l.length : Int) - k + 1)) (tasks_span h) (by omega) (by omega) (l[k]).after o (tasksOk_at h hx).2 (hb.low (by omega)) (by have := (hb.at_ (i := k) (by omega)).1; omega)
    rw [downs_cons]
    show lateRun l (lateRowW l k o (l.getD k default).after) (downs k 0) = lateGo l k (lateRow l k o (l.getD k default).after)
    rw [getDT_at hx, hr.1]
    exact lateRun_go h k _ (by omega) hr.2

set_option maxRecDepth 100000 in
set_option maxHeartbeats 8000000 in
theorem delay_any (g c : Nat) (l : List Task) (ss : List Int) (G H : Nat → Nat) (en : Int) (w : World) (HI : Hid (tasksOk l = true)) (hP : PtrRow w g l.length l.length G) (hS : StepsR w g l ss l.length G H) (hss : Hid (ss.length = l.length)) (he0 : 0 ≤ en) (he1 : en ≤ 210) (HPL : Hid (∀ x ∈ l, x.after.length ≤ 1048576)) :
    Calls Tryd.prog 74 #[.slice (some ⟨g, 0, none⟩) l.length c, .int .i64 en] w fun e w' => e = .returned (.tuple #[]) ∧ PtrRow w' g l.length l.length G ∧ StepsR w' g l (lateGo l l.length (l.map (fun x => en - x.span))) l.length G H ∧ Below g w w' := by
  have h7 := tasksOk_len HI.out
  have HSPN := hide (tasks_span HI.out)
  obtain ⟨n, hn⟩ : ∃ n : Nat, l.length = n := ⟨_, rfl⟩
  have HLN := hide hn
  rw [hn] at hP hS h7 ⊢
  have HP0 := hide hP
  have HS0 := hide hS
  have hgs : g < w.heap.size := World.rowIs.lt hP
  have hgw := hgs
  clear hn hP hS
  refine (callsIn_wide (n := 3)).1 ?_
  refine callsIn_of_wp_marks Tryd.func74 rfl trivial ?_ rfl
  simp only [Tryd.ntmps74, List.size_toArray, List.length_cons, List.length_nil, Nat.reduceAdd, Nat.reduceSub, Array.replicate_succ, Array.replicate_zero, List.push_toArray, List.append_toArray, List.nil_append, List.cons_append]
  gi_wp2
  gi_loopw [12] (fun iv wr => ∃ (k : Nat) (o : List Int), k ≤ n ∧ iv = .int .i64 k ∧ Hid (o.length = l.length ∧ ∀ i x, i < k → l[i]? = some x → o[i]? = some (en - x.span)) ∧ Hid (PtrRow wr g n n G) ∧ Hid (StepsR wr g l o n G H) ∧ g < wr.heap.size ∧ Below g w wr) (fun iv _ => n - (intOf iv).toNat)
  case atStart => exact ⟨0, ss, Nat.zero_le _, rfl, hide ⟨hss.out, fun i x hi => absurd hi (by omega)⟩, HP0, HS0, hgs, Below.refl _ _⟩
  case round =>
    clear HP0 HS0 hgs
    obtain ⟨k, o, hk, rfl, HO, HP, HS, hgs, hb⟩ := hrel
    by_cases hlt : k < n
    · obtain ⟨x, HX⟩ : ∃ x, Hid (l[k]? = some x) := ⟨_, hide (List.getElem?_eq_getElem (by rw [HLN.out]; exact hlt))⟩
      obtain ⟨s, hs⟩ : ∃ s, o[k]? = some s := ⟨_, List.getElem?_eq_getElem (by rw [HO.out.1, HLN.out]; exact hlt)⟩
      obtain ⟨hr1, hr2, hr3, hr4, hr5⟩ := HS.out k x s hlt HX.out hs
      have hcp := HP.out.at_ hlt hlt
      have hc0 := stepRow_0 hr4
      have hc1 := stepRow_1 hr4
      have hf1 := World.rowIs.frozen hr4 1
      have hgk := World.rowIs.lt hr4
      obtain ⟨hx0, hx1⟩ := HSPN.out x (List.mem_of_getElem? HX.out)
      have hz : (0 : Int) ≤ k := by omega
      have hz2 : (k : Int) < n := by omega
      have HS2 := hide (StepsR.set (v := en - x.span) HS.out (by rw [HLN.out]; exact Nat.le_refl _) (by rw [HO.out.1, HLN.out]; exact Nat.le_refl _) hlt)
      have HP2 : Hid (PtrRow (wr.setCell ⟨G k, 1, none⟩ (.int .i64 (en - x.span))) g n n G) := hide (HP.out.far (by simp; omega) _)
      have HO2 : Hid ((o.set k (en - x.span)).length = l.length ∧ ∀ i y, i < k + 1 → l[i]? = some y → (o.set k (en - x.span))[i]? = some (en - y.span)) := hide ⟨by rw [List.length_set]; exact HO.out.1, fun i y hi hy => by
        by_cases e : i = k
        · subst e
          rw [HX.out] at hy
          injection hy with hy
          subst hy
          rw [List.getElem?_set_self (by rw [HO.out.1, HLN.out]; exact hlt)]
        · rw [List.getElem?_set_ne (fun e' => e e'.symm)]
          exact HO.out.2 i y (by omega) hy⟩
      have hb2 : Below g w (wr.setCell ⟨G k, 1, none⟩ (.int .i64 (en - x.span))) := hb.setCell (p := ⟨G k, 1, none⟩) (by simp; omega) _
      clear hr4 hr5 hr3 hs
      gi_wp2
      go_roundw
      case rel => exact ⟨k + 1, o.set k (en - x.span), hlt, by go_num, HO2, HP2, HS2, by simpa using hgs, hb2⟩
      case measure => simp [intOf]; omega
    · have HOE : Hid (o = l.map (fun x => en - x.span)) := hide (by
        apply List.ext_getElem?
        intro i
        by_cases hi : i < l.length
        · have hx := List.getElem?_eq_getElem hi
          rw [HO.out.2 i _ (by have := HLN.out; omega) hx, List.getElem?_map, hx]
          rfl
        · rw [List.getElem?_eq_none (by rw [HO.out.1]; omega), List.getElem?_eq_none (by simp; omega)])
      gi_wp2
      refine ⟨trivial, ?_⟩
      refine (backward_in _ _ trivial rfl _ _ _ _).mono ?_
      rintro e w' ⟨rfl, rfl⟩
      gi_wp2
      obtain ⟨W1, hW1⟩ : ∃ W1, wr.alloc (.cells #[.slice (some ⟨g, 0, none⟩) n c] 91) = W1 := ⟨_, rfl⟩
      have hsz1 : W1.heap.size = wr.heap.size + 1 := by rw [← hW1]; simp
      have hB1 : Below wr.heap.size wr W1 := by rw [← hW1]; exact (Below.refl _ _).alloc (Nat.le_refl _) _
      have hbx : W1.cell? ⟨wr.heap.size, 0, none⟩ = some (.slice (some ⟨g, 0, none⟩) n c) := by rw [← hW1]; rw [cell_of_row _ _ 0 _ _ _ (heap_alloc_new wr _)]; rfl
      have hP1 := HP.out.below hB1
      have hS1 := HS.out.below hB1
      have hbw1 : Below g w W1 := hb.trans (hB1.mono (by omega))
      have HGB : Hid (∀ p, p < n → G p < wr.heap.size) := hide (fun p hp => (HS.out.gt (by rw [HLN.out]; exact Nat.le_refl _) (by rw [HO.out.1, HLN.out]; exact Nat.le_refl _) hp).2)
      have hOL : o.length = n := by rw [HO.out.1, HLN.out]
      have hlr : lateRun l o (([] : List (Fin n)).map (·.val)) = o := rfl
      rw [hW1]
      obtain ⟨Bx, hBx⟩ : ∃ Bx : Nat, wr.heap.size = Bx := ⟨_, rfl⟩
      rw [hBx] at hsz1 hbx hgs HGB ⊢
      clear hW1 hB1 hBx
      refine wpIn_rangeFunc_ownG (F := Fence.wide) (n := 3) rfl (by omega) (gf := 127) (lb := #[.pointer (some ⟨Bx, 0, none⟩)]) rfl trivial (enters_of Tryd.func127 (by kernel_rfl) rfl)
        (backward_stops Fence.wide 2 trivial rfl (by omega) Bx g n c G (by omega) W1 (by omega) (by omega) hbx (fun j hj => hP1.at_ hj hj)) (fun h k => KpAt.trans h k) (fun W q o1 o2 hq _ _ _ => kpAt_put (by omega) (by omega)) (Below.refl _ _) (fun _ => rfl)
        (fun pre W => (PtrRow W g n n G ∧ StepsR W g l (lateRun l o (pre.map (·.val))) n G H ∧ (lateRun l o (pre.map (·.val))).length = n) ∧ Below g w W)
        (fun _ _ _ => False)
        (OwnFrom.and (Own.from (fun s A B row hs hg hr => ⟨rowIs_turn hs.1 hg hr, hs.2.1.turn hg hr, hs.2.2⟩) _) (ownFrom_below (by omega) (by omega)))
        (fun _ _ _ _ _ hs _ _ => hs)
        ⟨⟨hP1, by rw [hlr]; exact hS1, by rw [hlr]; exact hOL⟩, hbw1⟩
        (fun x => { tmps := #[Value.slice (some ⟨g, 0, none⟩) n c, .int .i64 en, undef, undef, undef, u5, undef, .pointer (some ⟨G x.val, 0, none⟩), undef, undef, .slice (some ⟨g, 0, none⟩) n c, .int .i64 (n : Int), .int .i64 (k : Int), .bool false, u14, u15, u16, u17, u18, u19, u20, u21, u22, u23, u24, u25, .slice (some ⟨g, 0, none⟩) n c, .func (.func 127) #[] #[.pointer (some ⟨Bx, 0, none⟩)], .int .i64 ((x.val : Nat) : Int), .pointer (some ⟨G x.val, 0, none⟩), undef, undef, undef, undef, undef, undef, undef, undef, undef, undef, undef, undef, undef, undef, undef, undef, undef, undef, undef, undef, undef, undef, undef, undef, undef, undef, undef], defers := [] }) ?assign ?body ?done ?stop
      case assign =>
        intro l' x W K hK
        gi_wp2
        exact hK
      case body =>
        rintro l' pre ⟨x, hxn⟩ W ⟨⟨hPW, hSW, hLW⟩, hBW⟩ _
        obtain ⟨t, HX⟩ : ∃ t, Hid (l[x]? = some t) := ⟨_, hide (List.getElem?_eq_getElem (by rw [HLN.out]; exact hxn))⟩
        obtain ⟨oo, HOO⟩ : ∃ oo, Hid (lateRun l o (pre.map (·.val)) = oo) := ⟨_, hide rfl⟩
        rw [HOO.out] at hSW hLW
        have HNX : Hid (lateRun l o ((pre ++ [(⟨x, hxn⟩ : Fin n)]).map (fun q => q.val)) = lateRowW l x oo t.after) := hide (by
          rw [List.map_append, List.map_cons, List.map_nil, lateRun_snoc, HOO.out, getDT_at HX.out])
        obtain ⟨s0, hs0⟩ : ∃ s0, oo[x]? = some s0 := ⟨_, List.getElem?_eq_getElem (by omega)⟩
        obtain ⟨-, -, -, hr4, -⟩ := hSW x t s0 hxn HX.out hs0
        have hc2 := stepRow_2 hr4
        have HT : Hid (∀ a ∈ t.after, 0 ≤ a ∧ a < (x : Int)) := hide (tasksOk_at HI.out HX.out).2
        have htl : t.after.length ≤ 1048576 := HPL.out t (List.mem_of_getElem? HX.out)
        have HSW := hide hSW
        have HPW := hide hPW
        clear hr4 hs0 hSW hPW
        gi_wp2
        gi_loopw [35] (fun iv wi => ∃ (i : Nat) (o2 : List Int), i ≤ t.after.length ∧ iv = .int .i64 i ∧ Hid (lateRowW l x oo t.after = lateRowW l x o2 (t.after.drop i)) ∧ Hid (o2.length = n) ∧ Hid (PtrRow wi g n n G) ∧ Hid (StepsR wi g l o2 n G H) ∧ Hid (KeepsOthers W wi) ∧ Hid (KpAt Bx g W wi) ∧ Hid (Below g w wi)) (fun iv _ => t.after.length - (intOf iv).toNat)
        case atStart => exact ⟨0, oo, Nat.zero_le _, rfl, hide rfl, hide hLW, HPW, HSW, hide (KeepsOthers.refl _), hide (KpAt.refl _ _ _), hide hBW⟩
        case round =>
          clear HSW HPW
          obtain ⟨i, o2, hi, rfl, HR, HL2, HPi, HSi, HKO, HKP, HBi⟩ := hrel
          by_cases hit : i < t.after.length
          · obtain ⟨s2, hs2⟩ : ∃ s2, o2[x]? = some s2 := ⟨_, List.getElem?_eq_getElem (by rw [HL2.out]; exact hxn)⟩
            obtain ⟨-, -, -, hr4, hr5⟩ := HSi.out x t s2 hxn HX.out hs2
            have hx1 := stepRow_1 hr4
            have hpi := hr5.at_ hit hit
            obtain ⟨a, HAJ⟩ : ∃ a, Hid (t.after[i]? = some a) := ⟨_, hide (List.getElem?_eq_getElem hit)⟩
            have HDJ : Hid (t.after.drop i = a :: t.after.drop (i + 1)) := hide (by
              have := HAJ.out
              rw [List.getElem?_eq_getElem hit] at this
              injection this with this
              rw [List.drop_eq_getElem_cons hit, this])
            obtain ⟨p, rfl, hpx⟩ : ∃ p : Nat, a = p ∧ p < x := by
              have := HT.out a (List.mem_of_getElem? HAJ.out)
              exact ⟨a.toNat, by omega, by omega⟩
            rw [show (t.after.getD i 0).toNat = p from by rw [getDT_at HAJ.out]; omega] at hpi
            obtain ⟨y, HY⟩ : ∃ y, Hid (l[p]? = some y) := ⟨_, hide (List.getElem?_eq_getElem (by rw [HLN.out]; omega))⟩
            obtain ⟨s3, hs3⟩ : ∃ s3, o2[p]? = some s3 := ⟨_, List.getElem?_eq_getElem (by rw [HL2.out]; omega)⟩
            obtain ⟨-, -, -, hq4, -⟩ := HSi.out p y s3 (by omega) HY.out hs3
            have hp0 := stepRow_0 hq4
            have hp1 := stepRow_1 hq4
            have hpf := World.rowIs.frozen hq4 1
            have hgt := HSi.out.gt (by rw [HLN.out]; exact Nat.le_refl _) (by rw [HL2.out]; exact Nat.le_refl _) (show p < n by omega)
            obtain ⟨sv, hsv⟩ : ∃ sv, IntKind.i64.wrap (s2 - y.span) = sv := ⟨_, rfl⟩
            obtain ⟨nv, hnv⟩ : ∃ nv, (if sv < s3 then sv else s3) = nv := ⟨_, rfl⟩
            have HR2 : Hid (lateRowW l x oo t.after = lateRowW l x (o2.set p nv) (t.after.drop (i + 1))) := hide (by
              rw [HR.out, HDJ.out, lateRowW, Int.toNat_natCast, getDT_at hs2, getDT_at hs3, spanAt, getDT_at HY.out, hsv, hnv])
            have HL3 : Hid ((o2.set p nv).length = n) := hide (by rw [List.length_set]; exact HL2.out)
            have HP3 : Hid (PtrRow (wr.setCell ⟨G p, 1, none⟩ (.int .i64 nv)) g n n G) := hide (HPi.out.far (by simp; omega) _)
            have HS3 := hide (StepsR.set (v := nv) HSi.out (by rw [HLN.out]; exact Nat.le_refl _) (by rw [HL2.out]; exact Nat.le_refl _) (show p < n by omega))
            have hz : (0 : Int) ≤ i := by omega
            have hz2 : (i : Int) < t.after.length := by omega
            have hpn : Bx ≠ G p := by have := HGB.out p (by omega); omega
            have hpn2 : g ≠ G p := by omega
            gi_wp2
            refine wpIn_region_still 17 (by kernel_rfl) (by kernel_rfl) ?_ (fun ⟨_, _, h⟩ => h) ?_
            · intro q hq
              simp only [List.mem_cons, List.not_mem_nil, or_false] at hq
              rcases hq with rfl | rfl | rfl | rfl | rfl | rfl | rfl | rfl | rfl | rfl | rfl | rfl | rfl | rfl | rfl | rfl | rfl | rfl
              all_goals first | exact tame_of rfl | exact tame_nilCheck rfl | exact tame_min rfl
            simp only [List.take_succ_cons, List.take_zero, List.drop_succ_cons, List.drop_zero]
            repeat still_step
            refine wpStill_nil ?_
            go_wp2_with fail
            gi_wp2
            go_roundw
            case rel =>
              have hkp : KpAt Bx g wr (wr.setCell ⟨G p, 1, none⟩ (.int .i64 nv)).drew := fun q j h => by
                have hne : q ≠ G p := by rcases h with rfl | rfl <;> assumption
                exact World.cell?_of_block (a := ⟨q, j, none⟩) (heap_other hne)
              have hbs : Below g w (wr.setCell ⟨G p, 1, none⟩ (.int .i64 nv)) := HBi.out.setCell (p := ⟨G p, 1, none⟩) (by simp; omega) _
              exact ⟨i + 1, o2.set p nv, hit, by go_num, HR2, HL3, HP3, HS3, hide ((HKO.out.trans (KeepsOthers.setCell _ _ _)).trans (KeepsOthers.drew _)), hide (HKP.out.trans hkp), hide hbs.drew⟩
            case measure => simp [intOf]; omega
          · have hre : lateRowW l x oo t.after = o2 := by rw [HR.out, List.drop_of_length_le (by omega), lateRowW]
            gi_wp2
            exact ⟨HKO.out.from _, HKP.out, ⟨HPi.out, by rw [HNX.out, hre]; exact HSi.out, by rw [HNX.out, hre]; exact HL2.out⟩, HBi.out⟩
      case done =>
        rintro D ys W hD hys ⟨⟨hPW, hSW, -⟩, hBW⟩ hK
        have hgo : lateRun l o (ys.map (fun q => q.val)) = lateGo l n (l.map (fun x => en - x.span)) := by
          rw [hys, HOE.out]
          exact lateRun_go HI.out n _ (by rw [HLN.out]; exact Nat.le_refl _) ((late_firstE HI.out he0 he1).low (by rw [HLN.out]; omega))
        have hturn : ∀ r, some D = some r → ∃ o : Obj, W.heap[r]? = some o ∧ o.isCells = false := fun r e => by cases e; exact ⟨_, hK, rfl⟩
        rw [hgo] at hSW
        gi_wp2
        refine ⟨by simp, .inl ⟨_, _, rfl, run_takeDeferred hK, ?_⟩⟩
        exact ⟨_, results_none rfl _ _ _, rfl, rowIs_turn hPW (grownBy_putObj' W D _) hturn, hSW.turn (grownBy_putObj' W D _) hturn, hBW.trans (belowK_b (n₀ := g) (w := W1) (by omega) W D _ _ hD hK rfl rfl)⟩
      case stop =>
        rintro D c' pre W _ _ h _
        exact h.elim
end Go.Proofs.YtgagfaajilbmmaaDoor

namespace Go.Proofs.YtgagfaajilbmmaaDoor
open Go.RowKit Go.ChangeShapes Go.WideShapes Go.ChangeAt Go.Deep

set_option maxHeartbeats 1000000 in
theorem implStartsLate_any (A : Option Addr) (c : Nat) (l : List Task) (w : World) (hA : TasksAt w A l) (hl : l.length ≤ 1048576) (hp : ∀ x ∈ l, x.after.length ≤ 1048576) :
    Calls Tryd.prog 24 #[.slice A l.length c] w fun e w' => ∃ v, e = .returned v ∧ IntSl w' w.heap.size v (startsLateL l) ∧ Below w.heap.size w w' := by
  have HP := hide hp
  clear hp
  cases hI : tasksOk l with
  | false =>
    have HI := hide hI
    have H0 := hide (late_no hI)
    clear hI
    go_enter Tryd.func24, Tryd.ntmps24
    go_wp2_with fail
    refine (implTasksValid_any _ _ _ _ hA hl HP.out).mono ?_
    rintro e w1 ⟨rfl, hB1⟩
    rw [HI.out]
    go_wp2_with fail
    refine bodyPost_ret (results_tmp rfl _ _ _) rfl ⟨.slice none 0 0, rfl, by rw [H0.out]; exact World.ownsRow_nil _ _ _ _, hB1⟩
  | true =>
    have HI := hide hI
    have HL := hide (late_len hI)
    have HE : Hid (maxFrom 0 (donesL l) = tasksEndL l) := hide (by unfold tasksEndL; rw [if_pos hI])
    have HV : Hid (lateGo l l.length (l.map (fun x => tasksEndL l - x.span)) = startsLateL l) := hide (by unfold startsLateL; rw [if_pos hI])
    have HR := hide (late_rng hI)
    have HS := hide (tasks_span hI)
    have he0 := end_nn hI
    have he1 := end_top hI
    clear hI
    go_enter Tryd.func24, Tryd.ntmps24
    go_wp2_with fail
    refine (implTasksValid_any _ _ _ _ hA hl HP.out).mono ?_
    rintro e w1 ⟨rfl, hB1⟩
    rw [HI.out]
    have hsz1 := hB1.size
    go_wp2_with fail
    refine (stepsOfR_any _ _ _ _ (hA.below hB1) HI HP.out).mono ?_
    rintro e w2 ⟨rfl, ⟨G, H, hR, hU⟩, hB2⟩
    have hb2 := next hB1 hB2
    have hE := endOf_any _ l.length _ w2 (endsOf_at hR (hU.upto HS.out (startsEarlyL_ok HI.out)) (startsEarlyL_len HI.out)) (by rw [endsOf_len]; exact hl)
    rw [endsOf_len, endsOf_dones (startsEarlyL_len HI.out), show maxFrom 0 (List.zipWith (fun s x => s + x.span) (startsEarlyL l) l) = tasksEndL l from HE.out] at hE
    have HQ := hide hE
    have HP2 := hide hR
    have HS2 := hide hU
    clear hE hR hU
    go_wp2_with fail
    refine HQ.out.mono ?_
    rintro e w3 ⟨rfl, hB3⟩
    have hb3 := next hb2 hB3
    have hD := delay_any w1.heap.size l.length l _ G H (tasksEndL l) w3 HI (HP2.out.below hB3) (HS2.out.below hB3) (hide (startsEarlyL_len HI.out)) he0 he1 HP
    rw [HV.out] at hD
    have HD := hide hD
    clear hD
    go_wp2_with fail
    refine HD.out.mono ?_
    rintro e w4 ⟨rfl, hP4, hS4, hB4⟩
    have hb4 := hb3.trans (hB4.mono hsz1)
    have hsz4 := hb4.size
    have hS := startsOf_any w1.heap.size l.length l.length G (startsLateL l) w4 hP4 (fun i s hs => by
      have hi : i < l.length := by have := (List.getElem?_eq_some_iff.1 hs).1; rw [HL.out] at this; exact this
      exact ⟨_, (hS4.upto HS.out HR.out i l[i] s hi (List.getElem?_eq_getElem hi) hs).2⟩) HL.out hl
    have HO2 := hide hS
    clear hS hP4 hS4
    go_wp2_with fail
    refine HO2.out.mono ?_
    rintro e w5 ⟨rfl, hO, hB5⟩
    have hb5 := next hb4 hB5
    have HO : Hid (IntSl w5 w.heap.size (.slice (some ⟨w4.heap.size, 0, none⟩) l.length l.length) (startsLateL l)) := hide (by
      have := hO.sl hsz4 (by rw [HL.out]; exact hl)
      rwa [HL.out] at this)
    clear hO
    go_wp2_with fail
    refine bodyPost_ret (results_tmp rfl _ _ _) rfl ⟨.slice (some ⟨w4.heap.size, 0, none⟩) l.length l.length, rfl, HO.out, hb5⟩
end Go.Proofs.YtgagfaajilbmmaaDoor
