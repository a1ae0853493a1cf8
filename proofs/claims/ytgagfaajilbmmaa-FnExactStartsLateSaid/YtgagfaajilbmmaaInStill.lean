/- InStill: a region that draws its order and only reads before its last operations, inside a round of a range over a function.
   Conditions: each operation hands back a value or nothing. -/
import Derived.StillTail
import Derived.OrdersIn
import Derived.TacticsIn
namespace Go.Proofs.Ytgagfaajilbmmaa
open Go

/-- An operation that calls no function of Go and is carried out in a round as anywhere. -/
def Tame (P : Program) (o : Oper) : Prop := (∀ c, o.op ≠ .defer c) ∧ (∀ (ρ : Operand → Value) (w : World), o.about P w ρ = none) ∧ ∀ (ρ : Operand → Value) (w w' : World) (x : Next), (execOp ρ o).run P w = .ok x w' → (∃ v, x = .value v) ∨ x = .skip

theorem tame_op {F : Fence} {n : Nat} {P : Program} {o : Oper} {a : Act} {w : World} {K : Act → World → Prop} {Q : Exit → Act → World → Prop} (ht : Tame P o) (h : o.wp P a w K Q) : o.wpIn F n P a w K Q := by
  refine ⟨fun f hf => (by rw [ht.2.1] at hf; cases hf), ?_⟩
  rw [Oper.semAt_eq _ _ _ ht.1]
  unfold Oper.wp at h
  cases hr : (execOp a.eval o).run P w with
  | ok x w' =>
    rw [hr] at h
    rcases ht.2.2 _ _ _ _ hr with ⟨v, rfl⟩ | rfl
    · exact h
    · exact h
  | halt c w' =>
    rw [hr] at h
    cases c <;> exact h

theorem tame_wpOp {F : Fence} {n : Nat} {P : Program} {ops : Array Oper} {Q : Exit → Act → World → Prop} (hT : ∀ (i : Nat) o, ops[i]? = some o → Tame P o) (hQ : ¬ LetsOut Q) {i : Nat} {K K' : Act → World → Prop} (hK : ∀ a w, K a w → K' a w) {a : Act} {w : World} (h : wpOp P ops Q i K a w) : wpOpIn F n P ops Q i K' a w := by
  unfold wpOp at h
  unfold wpOpIn
  cases ho : ops[i]? with
  | none =>
    rw [ho] at h
    exact hK _ _ h
  | some o =>
    rw [ho] at h
    simp only at h ⊢
    by_cases hw : Region.wanted o (yielded ops a.tmps) = true
    · rw [if_pos hw] at h ⊢
      rcases h with h | ⟨-, h⟩
      · exact tame_op (hT i o ho) (Oper.wp_mono hK h)
      · exact absurd h hQ
    · rw [if_neg hw] at h ⊢
      exact ⟨fun f hf => (by rw [(hT i o ho).2.1] at hf; cases hf), hK _ _ h⟩

theorem tame_any {F : Fence} {n : Nat} {P : Program} {md : Region.Mode} {ops : Array Oper} {Q : Exit → Act → World → Prop} (hT : ∀ (i : Nat) o, ops[i]? = some o → Tame P o) (hQ : ¬ LetsOut Q) : ∀ (fuel : Nat) (listed : Array Bool) (a : Act) (w : World), wpAny P md ops Q fuel listed a w → wpAnyIn F n P md ops Q fuel listed a w
  | 0, _, _, _, h => h
  | fuel + 1, _, _, _, h => ⟨h.1, fun i hi => tame_wpOp hT hQ (fun a w hk => tame_any hT hQ fuel _ a w hk) (h.2 i hi)⟩

theorem wpIn_region_still {F : Fence} {n : Nat} {P : Program} {id : Nat} {Q : Exit → Act → World → Prop} {a : Act} {w : World} {l : List Oper} (m : Nat) (hm : P.follows .mixedOrders = true) (hB : Region.lexTailB .any l.toArray m = true)
    (hT : ∀ o ∈ l, Tame P o) (hQ : ¬ LetsOut Q)
    (h : wpStill P l.toArray { w with drawn := w.drawn + 1 } (fun a' => wpList P l.toArray Q (l.drop m) a' { w with drawn := w.drawn + 1 }) (l.take m) a) : (Code.region id l.toArray true).wpIn F n P Q a w := by
  simp only [Region.lexTailB, Bool.and_eq_true, decide_eq_true_eq] at hB
  obtain ⟨⟨⟨⟨hsel, hn⟩, hs⟩, hc⟩, hlex⟩ := hB
  have hn' : m < l.length := by simpa using hn
  have htl : (l.take m).length = m := by simp; omega
  have hdl : (l.drop m).length = l.toArray.size - m := by simp
  have inv0 : HeadInv .any l.toArray m (Array.replicate l.toArray.size false) :=
    ⟨by simp, fun j oj _ hl => (by rw [getD_replicate_false] at hl; cases hl), fun t _ ht => getD_in (by simpa using ht) (getD_replicate_false _ _)⟩
  have H := wpAnyL_lex (md := .any) (g := l.toArray.size - m) hsel hs hc hn (l.take m) 0 _ a (fun j hj => by
    have hj' : j < m := by rw [htl] at hj; exact hj
    simp [hj']) (by simpa using htl) inv0 (by rw [htl]; exact hlex) h
  refine wpIn_region_any hm ?_
  have := wpAny_of_head (Q' := Q) (g := l.toArray.size - m) (fun listed a' hL => by
    have := wpAny_of_seq (md := .any) (Q' := Q) (l.drop m) m listed a' { w with drawn := w.drawn + 1 } (fun j => by simp [List.getElem?_drop]) (by rw [hdl]; exact hL.1) hL.2
    rwa [hdl] at this) _ _ _ H
  rw [htl, show m + (l.toArray.size - m) = l.toArray.size by omega] at this
  exact tame_any (fun i o ho => hT o (by rw [List.getElem?_toArray] at ho; exact List.mem_of_getElem? ho)) hQ _ _ _ _ this

theorem run_val {P : Program} {s : Sem Value} {w w' : World} {x : Next} (h : (do pure (Next.value (← s)) : Sem Next).run P w = .ok x w') : ∃ v, x = .value v := by
  rw [Sem.run_bind] at h
  cases hs : s.run P w with
  | ok v w1 =>
    rw [hs] at h
    simp only [Result.andThen_ok, Sem.run_pure] at h
    injection h with h1 _
    exact ⟨v, h1.symm⟩
  | halt c w1 =>
    rw [hs] at h
    cases h
theorem run_unit {P : Program} {s : Sem Unit} {w w' : World} {x : Next} (h : (do s; pure Next.skip : Sem Next).run P w = .ok x w') : x = .skip := by
  rw [Sem.run_bind] at h
  cases hs : s.run P w with
  | ok v w1 =>
    rw [hs] at h
    simp only [Result.andThen_ok, Sem.run_pure] at h
    injection h with h1 _
    exact h1.symm
  | halt c w1 =>
    rw [hs] at h
    cases h
def tameB : Op → Bool
  | .move _ | .assign _ | .load _ _ | .store _ _ _ | .fieldAddr _ _ _ | .indexAddr _ _ _ | .binOp _ _ _ _ _ => true
  | _ => false
theorem tame_of {P : Program} {o : Oper} (h : tameB o.op = true) : Tame P o := by
  obtain ⟨dst, op, type, pos, after, guard⟩ := o
  cases op <;> simp only [tameB, Bool.false_eq_true] at h
  all_goals
    refine ⟨fun c e => (by cases e), fun ρ w => rfl, fun ρ w w' x hx => ?_⟩
  all_goals first
    | (have := run_val hx; exact .inl this)
    | (have := run_unit hx; exact .inr this)
    | (simp only [execOp, Sem.run_pure] at hx; injection hx with h1 _; exact .inl ⟨_, h1.symm⟩)
theorem bind_ok {α β : Type} {P : Program} {s : Sem α} {f : α → Sem β} {w w' : World} {x : β} (h : (s >>= f).run P w = .ok x w') : ∃ a w1, s.run P w = .ok a w1 ∧ (f a).run P w1 = .ok x w' := by
  rw [Sem.run_bind] at h
  cases hs : s.run P w with
  | ok v w1 =>
    rw [hs] at h
    exact ⟨v, w1, rfl, h⟩
  | halt c w1 =>
    rw [hs] at h
    cases h
theorem tame_nilCheck {P : Program} {o : Oper} {y : Operand} (h : o.op = .nilCheck y) : Tame P o := by
  obtain ⟨dst, op, type, pos, after, guard⟩ := o
  cases h
  refine ⟨fun c e => (by cases e), fun ρ w => rfl, fun ρ w w' x hx => ?_⟩
  simp only [execOp] at hx
  split at hx
  · simp [runtimePanic, go_sem] at hx
  · simp [runtimePanic, go_sem] at hx
  · simp [runtimePanic, go_sem] at hx
  · split at hx
    · simp [runtimePanic, go_sem] at hx
    · obtain ⟨_, _, -, hx⟩ := bind_ok hx
      obtain ⟨_, _, -, hx⟩ := bind_ok hx
      split at hx
      · obtain ⟨_, _, -, hx⟩ := bind_ok hx
        rw [Sem.run_pure] at hx
        injection hx with h1 _
        exact .inl ⟨_, h1.symm⟩
      · rw [Sem.run_pure] at hx
        injection hx with h1 _
        exact .inl ⟨_, h1.symm⟩
    · simp only [Sem.run_pure] at hx
      injection hx with h1 _
      exact .inl ⟨_, h1.symm⟩
  · simp only [Sem.run_pure] at hx
    injection hx with h1 _
    exact .inl ⟨_, h1.symm⟩
theorem tame_min {P : Program} {o : Oper} {y z : Operand} {ts : Array TypeId} (h : o.op = .call { callee := .builtin .min, args := #[y, z], argTypes := ts }) : Tame P o := by
  obtain ⟨dst, op, type, pos, after, guard⟩ := o
  cases h
  refine ⟨fun c e => (by cases e), fun ρ w => ?_, fun ρ w w' x hx => ?_⟩
  · simp [Oper.about, resolve, go_sem, Target.leads]
  · simp [execOp, resolve, invoke, go_sem] at hx
    cases hs : (Builtin.min_ ts type #[ρ y, ρ z]).run P w with
    | ok v w1 =>
      rw [hs] at hx
      simp only [Result.andThen_ok] at hx
      injection hx with h1 _
      exact .inl ⟨v, h1.symm⟩
    | halt c w1 =>
      rw [hs] at hx
      cases hx
end Go.Proofs.Ytgagfaajilbmmaa
