/- A box that lies below what is owned is written to.
   Conditions: the bounds in each statement. -/
import Derived.Test.YtgagfaajilbmmaaDoorDrawPlan
namespace Go.Proofs.YtgagfaajilbmmaaDoor
open Go.RowKit Go.ChangeShapes Go.WideShapes Go.ChangeAt Go.Deep

/-- Stores into a box that lies below what is owned. -/
structure Boxed (R lo : Nat) (W W' : World) : Prop where
  os : W'.os = W.os
  tape : W'.tape = W.tape
  output : W'.output = W.output
  size : W'.heap.size = W.heap.size
  keep : ∀ k, k ≠ R → W'.heap[k]? = W.heap[k]?
  box : ∃ c, W.heap[R]? = some (.cells c 26 (0, 0))
  low : R < lo
theorem boxed2 {W : World} {R lo : Nat} {u v : Value} {c : Array Value} (h : W.heap[R]? = some (.cells c 26 (0, 0))) (hl : R < lo) : Boxed R lo W ((W.setCell ⟨R, 0, none⟩ u).setCell ⟨R, 1, none⟩ v) :=
  ⟨rfl, rfl, rfl, by simp, fun k hk => by rw [heap_setCell_other _ ⟨R, 1, none⟩ k _ hk, heap_setCell_other _ ⟨R, 0, none⟩ k _ hk], ⟨c, h⟩, hl⟩
theorem Boxed.grown {W W' : World} {R lo : Nat} (h : Boxed R lo W W') : W.grownBy W' (some R) := ⟨h.os, h.tape, h.output, Nat.le_of_eq h.size.symm, fun k _ hk => h.keep k (fun e => hk (by rw [e]))⟩
theorem Boxed.ints {W W' : World} {R lo : Nat} {v : Value} {xs : List Int} (h : Boxed R lo W W') (hs : IntSl W lo v xs) : IntSl W' lo v xs := hs.row h.grown (by
  cases e : v.ownBlock with
  | none => exact .inl rfl
  | some k => exact .inr (fun e' => by injection e' with e'; have := (World.ownsRow.lt hs k e).1; have := h.low; omega))
theorem Boxed.items {W W' : World} {R lo : Nat} {v : Value} {l : List Item} (h : Boxed R lo W W') (hs : ItemSl W lo v l) : ItemSl W' lo v l := by
  have ho := hs
  obtain ⟨cs, ho, _⟩ := ho
  obtain ⟨c, hc⟩ := h.box
  exact hs.kept (Nat.le_of_eq h.size.symm) (fun k hk => h.keep k (by have := (ho.lt k hk).1; have := h.low; omega)) (fun A ht => ht.far hc (by decide) h.grown)
theorem ItemSl.at_ {w : World} {lo c n : Nat} {A : Option Addr} {l : List Item} (h : ItemSl w lo (.slice A n c) l) : ItemsAt w A l := by
  obtain ⟨A3, c3, e, hI⟩ := h.form
  injection e with e
  rw [e]; exact hI

end Go.Proofs.YtgagfaajilbmmaaDoor
