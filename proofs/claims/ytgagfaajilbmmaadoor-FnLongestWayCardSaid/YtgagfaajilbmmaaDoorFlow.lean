/- Steps of cooking, each a block of its own behind a pointer: contracts of the helpers that make one and tell when it is done.
   Conditions: the bounds in each statement. -/
import Derived.Test.YtgagfaajilbmmaaDoorCook1
import Derived.Test.YtgagfaajilbmmaaDoorCook3
import Derived.Test.YtgagfaajilbmmaaDoorSlKit
import Derived.Deep.QuietTactic
import Derived.Deep.RegionLaw
import Derived.BigQuiet
namespace Go.Proofs.YtgagfaajilbmmaaDoor
open Go.RowKit Go.ChangeShapes Go.WideShapes Go.ChangeAt Go.Deep

/-- Block b is a step that is done at d. -/
structure StepP (w : World) (b : Nat) (d : Int) : Prop where
  lt : b < w.heap.size
  ex : ∃ sp st : Int, w.cell? ⟨b, 0, none⟩ = some (.int .i64 sp) ∧ w.cell? ⟨b, 1, none⟩ = some (.int .i64 st) ∧ 0 ≤ sp ∧ 0 ≤ st ∧ st + sp = d ∧ d ≤ 1000000
theorem StepP.below {w w' : World} {b : Nat} {d : Int} (h : StepP w b d) (hB : Below w.heap.size w w') : StepP w' b d := by
  obtain ⟨sp, st, h1, h2, h3⟩ := h.ex
  exact ⟨Nat.lt_of_lt_of_le h.lt hB.size, sp, st, (hB.cell h.lt).trans h1, (hB.cell h.lt).trans h2, h3⟩

set_option maxHeartbeats 400000 in
theorem done_any (b : Nat) (d : Int) (w : World) (h : StepP w b d) :
    Calls Tryd.prog 111 #[.pointer (some ⟨b, 0, none⟩)] w fun e w' => e = .returned (.int .i64 d) ∧ ∃ m, w' = w.drewN m := by
  obtain ⟨sp, st, h1, h2, h3, h4, rfl, h6⟩ := h.ex
  have hw : IntKind.i64.wrap (st + sp) = st + sp := IntWalk.i64_in _ (by omega)
  clear h
  go_enter Tryd.func111, Tryd.ntmps111
  go_wp2_with fail
  go_quiet (fail)
  go_wp2_with fail
  go_ret
  exact ⟨rfl, _, rfl⟩

def StepsAt (w : World) (A : Option Addr) (bds : List (Nat × Int)) : Prop :=
  ∀ i p, bds[i]? = some p → ∃ ab off, A = some ⟨ab, off, none⟩ ∧ ab < w.heap.size ∧ w.cell? ⟨ab, off + i, none⟩ = some (.pointer (some ⟨p.1, 0, none⟩)) ∧ StepP w p.1 p.2
theorem StepsAt.below {w w' : World} {A : Option Addr} {bds : List (Nat × Int)} (h : StepsAt w A bds) (hB : Below w.heap.size w w') : StepsAt w' A bds := by
  intro i p hp
  obtain ⟨ab, off, e, hl, h1, h2⟩ := h i p hp
  exact ⟨ab, off, e, Nat.lt_of_lt_of_le hl hB.size, (hB.cell hl).trans h1, h2.below hB⟩

set_option maxRecDepth 100000 in
set_option maxHeartbeats 2000000 in
theorem newStep_any (sp : Int) (A : Option Addr) (c : Nat) (bds : List (Nat × Int)) (w : World) (h0 : 0 ≤ sp) (h1 : sp ≤ 30) (hA : StepsAt w A bds) (hl : bds.length ≤ 1048576) (HM : Hid (∀ p ∈ bds, p.2 ≤ 900000)) :
    Calls Tryd.prog 109 #[.int .i64 sp, .slice A bds.length c] w fun e w' => ∃ g, e = .returned (.pointer (some ⟨g, 0, none⟩)) ∧ w.heap.size ≤ g ∧ StepP w' g (maxFrom 0 (bds.map (·.2)) + sp) ∧ Below w.heap.size w w' := by
  go_enter Tryd.func109, Tryd.ntmps109
  go_wp2_with fail
  go_loopw [14] (fun i wr => ∃ (k : Nat) (st : Int), k ≤ bds.length ∧ i = .int .i64 k ∧ 0 ≤ st ∧ st ≤ 900000 ∧ Hid (maxFrom 0 (bds.map (·.2)) = maxFrom st ((bds.map (·.2)).drop k)) ∧ wr.cell? ⟨w.heap.size, 0, none⟩ = some (.int .i64 sp) ∧ wr.cell? ⟨w.heap.size, 1, none⟩ = some (.int .i64 st) ∧ wr.frozen? ⟨w.heap.size, 1, none⟩ = false ∧ w.heap.size < wr.heap.size ∧ Below w.heap.size w wr) (fun i _ => bds.length - (intOf i).toNat)
  case atStart => exact ⟨0, 0, Nat.zero_le _, rfl, by omega, by omega, hide rfl, by simp, by simp, by simp, by simp, by go_grown⟩
  case round =>
    obtain ⟨k, st, hk, rfl, hs0, hs1, HG, hc0, hc1, hf1, hsl, hb⟩ := hrel
    have hsz := hb.size
    by_cases hlt : k < bds.length
    · obtain ⟨ab, off, rfl, hbl, hcp, hst⟩ := (hA.below hb) k bds[k] (List.getElem?_eq_getElem hlt)
      have hMb := HM.out _ (List.getElem_mem hlt)
      have HD : Hid ((bds.map (·.2)).drop k = bds[k].2 :: (bds.map (·.2)).drop (k + 1)) := hide (by
        rw [List.drop_eq_getElem_cons (by rw [List.length_map]; exact hlt)]
        simp)
      generalize bds[k] = p at *
      obtain ⟨b, d⟩ := p
      simp only at hcp hst hMb HD
      have hd0 : 0 ≤ d := by obtain ⟨_, _, _, _, a, b', c', _⟩ := hst.ex; omega
      have HDN : Hid (Calls Tryd.prog 111 #[.pointer (some ⟨b, 0, none⟩)] wr.drew fun e w' => e = .returned (.int .i64 d) ∧ ∃ m, w' = wr.drew.drewN m) := hide (done_any b d wr.drew ⟨hst.lt, hst.ex⟩)
      have HG2 : Hid (maxFrom 0 (bds.map (·.2)) = maxFrom (if st < d then d else st) ((bds.map (·.2)).drop (k + 1))) := hide (by rw [HG.out, HD.out, maxFrom])
      have hz : (0 : Int) ≤ k := by omega
      have hz2 : (k : Int) < bds.length := by omega
      clear hst hbl
      go_wp2_with fail
      go_region_law ((go_simp; go_at_call 111; refine HDN.out.mono ?_; rintro e w5 ⟨rfl, m, rfl⟩))
      all_goals
        go_wp2_with fail
        go_roundw
        case rel =>
          have hbq : Below w.heap.size w (wr.drewN (1 + m)) := ⟨hb.os, hb.tape, hb.output, hb.size, hb.block⟩
          exact ⟨k + 1, if st < d then d else st, hlt, by go_num, by split <;> omega, by split <;> omega, HG2, by simp [go_sem, hc0], by simp [go_sem, hc1], by simp [hf1], by simpa using hsl, by go_grown⟩
        case measure => simp [intOf]; omega
    · have H3 : Hid (maxFrom 0 (bds.map (·.2)) = st) := hide (by rw [HG.out, List.drop_of_length_le (by rw [List.length_map]; omega), maxFrom])
      go_wp2_with fail
      go_ret
      exact ⟨_, rfl, Nat.le_refl _, by rw [H3.out]; exact ⟨hsl, sp, st, hc0, hc1, h0, hs0, rfl, by omega⟩, hb⟩

def flowGo (l : List Dish) : Int → Int → List Int → List Int → List Int
  | _, _, [], e => e
  | f, s, o :: r, e => flowGo l (f + (l.getD o.toNat ⟨0, 0⟩).prep) ((if s < f + (l.getD o.toNat ⟨0, 0⟩).prep then f + (l.getD o.toNat ⟨0, 0⟩).prep else s) + (l.getD o.toNat ⟨0, 0⟩).cook) r
      (e.set o.toNat ((if s < f + (l.getD o.toNat ⟨0, 0⟩).prep then f + (l.getD o.toNat ⟨0, 0⟩).prep else s) + (l.getD o.toNat ⟨0, 0⟩).cook))
def flowFit (l : List Dish) (ord : List Int) : Bool := dishesOk l && orderOkL ord (l.length : Int)
def flowEndsL (l : List Dish) (ord : List Int) : List Int := if flowFit l ord = true then flowGo l 0 0 ord (tab l.length (fun _ => 0)) else []
def flowEndL (l : List Dish) (ord : List Int) : Int := if flowFit l ord = true then maxFrom 0 (flowEndsL l ord) else -1
theorem flowGo_len (l : List Dish) : ∀ (ord : List Int) (f s : Int) (e : List Int), (flowGo l f s ord e).length = e.length
  | [], _, _, _ => rfl
  | o :: r, f, s, e => by rw [flowGo, flowGo_len l r, List.length_set]
theorem flowEndsL_len (l : List Dish) (ord : List Int) : (flowEndsL l ord).length ≤ l.length := by
  unfold flowEndsL
  split
  · rw [flowGo_len, tab_len]; exact Nat.le_refl _
  · simp

end Go.Proofs.YtgagfaajilbmmaaDoor
