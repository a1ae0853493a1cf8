/- For all drawn bytes the law of UseSum answers true, and its argument reads as it did.
   Conditions: none. -/
import Derived.Test.YtndcanllkmfahaaDoorLawKit
import Derived.Test.YtndcanllkmfahaaDoorDrawUse
import Derived.Test.YtndcanllkmfahaaDoorDrawUB
import Derived.Test.YtndcanllkmfahaaDoorTakeMath5
namespace Go.Proofs.YtndcanllkmfahaaDoor
open Go.RowKit Go.ChangeShapes Go.WideShapes Go.ChangeAt

theorem rows_rangeU {rows : List (List Int)} (hl : rows.length ≤ 7) (h : RowsIn 10 rows) : useSumW rows = sumL (rows.map sumL) ∧ 0 ≤ sumL (rows.map sumL) ∧ sumL (rows.map sumL) ≤ 420 ∧ ∀ x ∈ rows, sumW x = sumL x ∧ 0 ≤ sumL x ∧ sumL x ≤ 60 := by
  have h1 : ∀ x ∈ rows, sumW x = sumL x ∧ 0 ≤ sumL x ∧ sumL x ≤ 60 := fun x hx => by
    have a := (h x hx).1
    have r := sumL_range (h x hx).2
    exact ⟨sumW_plain (h x hx).2 (by omega) (by omega), r.1, by omega⟩
  have h2 : rows.map sumW = rows.map sumL := List.map_congr_left (fun x hx => (h1 x hx).1)
  have h3 : ∀ s ∈ rows.map sumL, 0 ≤ s ∧ s ≤ 60 := fun s hs => by
    obtain ⟨x, hx, rfl⟩ := List.mem_map.1 hs
    exact (h1 x hx).2
  have hm : (rows.map sumL).length ≤ 7 := by rw [List.length_map]; exact hl
  have r := sumL_range h3
  unfold useSumW
  rw [h2]
  exact ⟨sumW_plain h3 (by omega) (by omega), r.1, by omega, h1⟩
theorem useSum_first {rows : List (List Int)} {x : List Int} (hl : rows.length ≤ 7) (h : RowsIn 10 rows) (hx : rows[0]? = some x) : useSumW rows = sumW x + useSumW (rows.drop 1) ∧ 0 ≤ sumW x ∧ sumW x ≤ 60 ∧ 0 ≤ useSumW (rows.drop 1) ∧ useSumW (rows.drop 1) ≤ 420 := by
  cases rows with
  | nil => simp at hx
  | cons y r =>
    obtain rfl : y = x := by simpa using hx
    obtain ⟨a1, a2, a3, a4⟩ := rows_rangeU hl h
    obtain ⟨b1, b2, b3, _⟩ := rows_rangeU (rows := r) (by simp at hl; omega) (fun z hz => h z (by simp [hz]))
    obtain ⟨c1, c2, c3⟩ := a4 y (by simp)
    simp only [List.map_cons, sumL] at a1
    simp only [List.drop_succ_cons, List.drop_zero]
    omega

def DrawnRows (w : World) (e : Ending) (w' : World) : Prop := ∃ (rows : List (List Int)) (A : Option Addr) (c : Nat), e = .returned (.slice A rows.length c) ∧ RowsAt w' A rows ∧ rows.length ≤ 7 ∧ RowsIn 10 rows ∧ rows.length ≤ c ∧ Below w.heap.size w w'

set_option maxHeartbeats 1000000 in
theorem drawUseSum_any (A : Option Addr) (c m : Nat) (w : World) (hB : BytesIn w A m) (hm : m ≤ 9223372036854775807) (hc : m ≤ c) (hc2 : c ≤ 9223372036854775807) :
    Calls Tryd.prog 28 #[.slice A m c] w (DrawnRows w) := by
  go_enter Tryd.func28, Tryd.ntmps28
  go_wp2_with fail
  refine (open_any A c m w hB hm hc hc2).mono ?_
  rintro e w1 ⟨rfl, hR1, hb1⟩
  have hz1 := hb1.size
  go_wp2_with fail
  refine (l20Use_any w.heap.size 0 _ hR1 (by omega)).mono ?_
  rintro e w2 ⟨ls, g, c2, xs, h, c3, rows, A2, c4, rfl, -, -, hU2, -, -, hr, hin, -, hrc, hg2⟩
  have hb2 : Below w.heap.size w w2 := hb1.grown hg2 hz1 (fun j hj => by injection hj with hj; omega)
  have HU := hide hU2
  have HIN := hide hin
  clear hU2 hg2 hin
  go_wp2_with fail
  refine bodyPost_ret (results_tmp rfl _ _ _) rfl ⟨rows, A2, c4, rfl, HU.out, hr, HIN.out, hrc, hb2⟩

set_option maxRecDepth 100000 in
set_option maxHeartbeats 4000000 in
theorem lawUseSum_any (A : Option Addr) (c m : Nat) (w : World) (hB : BytesIn w A m) (hc : m ≤ c) (hc2 : c ≤ 9223372036854775807) :
    Calls Tryd.prog 6 #[.slice A m c] w fun e w' => e = .returned (.bool true) ∧ Below w.heap.size w w' := by
  by_cases hlen : (1048576 : Int) < m
  · go_enter Tryd.func6, Tryd.ntmps6
    go_wp2_with fail
    go_ret
    exact ⟨rfl, by go_grown⟩
  · go_enter Tryd.func6, Tryd.ntmps6
    go_wp2_with fail
    refine (drawUseSum_any A c m w hB (by omega) hc hc2).mono ?_
    rintro e w1 ⟨rows, A2, c3, rfl, hU, hr, hin, hrc, hb1⟩
    have hr' : rows.length ≤ 1048576 := by omega
    have HRR : Hid (∀ x ∈ rows, x.length ≤ 1048576) := hide (fun x hx => Nat.le_trans (hin x hx).1 (by omega))
    have HU := hide hU
    have HIN := hide hin
    clear hU hin
    obtain ⟨s, HS⟩ : ∃ s, Hid (useSumW rows = s) := ⟨_, hide rfl⟩
    have hbb : (s != s) = false := by simp
    go_wp2_with fail
    refine (implUseSum_any _ _ _ _ HU.out hr' HRR.out).mono ?_
    rintro e w2 ⟨rfl, hB2⟩
    rw [HS.out]
    have hb2 := next hb1 hB2
    have HU2 := hide (HU.out.below hB2)
    clear hB2 HU
    go_wp2_with fail
    refine (specUseSum_any _ _ _ _ HU2.out hr' HRR.out).mono ?_
    rintro e w3 ⟨rfl, hB3⟩
    rw [HS.out]
    have hb := next hb2 hB3
    have HU3 := hide (HU2.out.below hB3)
    clear hB3 HU2
    by_cases h0 : rows.length = 0
    · have hs0 : s = 0 := by
        rw [← HS.out, List.eq_nil_of_length_eq_zero h0]
        rfl
      subst hs0
      have hz1 : ((rows.length : Int) == 0) = true := by rw [h0]; rfl
      clear h0
      go_wp2_with fail
      refine wp_region_noPanic ?_
      refine wp_region_held_drew (S := fun W => Below w3.heap.size w3 W) (by kernel_rfl) (by go_grown) (fun hH0 => ?_)
      have hH0h := hide (show Below w3.heap.size w3 _ from hH0)
      clear hH0
      refine wpAnyH_take (i := 0) (oi := { dst := some 16, op := Op.move (Operand.tmp 3), type := 38, pos := "laws.go:546", after := #[], guard := none }) (v := ?v1z) rfl (by kernel_rfl) (by kernel_rfl) (by kernel_rfl) (fun _ _ _ h => h) (Or.inl ⟨by rfl, ?hy1z⟩) hH0h.out ?rest1z
      case hy1z => (intro w9 hS9; go_simp; (try with_reducible rfl))
      simp only [Act.put, List.setIfInBounds_toArray, List.set_cons_zero, List.set_cons_succ]
      refine wpAnyH_take (i := 1) (oi := { dst := some 17, op := Op.call { callee := Callee.builtin Builtin.len, args := #[Operand.tmp 16], argTypes := #[38] }, type := 3, pos := "laws.go:546", after := #[{ on := 0, ground := Ground.data }], guard := none }) (v := ?v2z) rfl (by kernel_rfl) (by kernel_rfl) (by kernel_rfl) (fun _ _ _ h => h) (Or.inl ⟨by rfl, ?hy2z⟩) hH0h.out ?rest2z
      case hy2z => (intro w9 hS9; go_simp; (try with_reducible rfl))
      simp only [Act.put, List.setIfInBounds_toArray, List.set_cons_zero, List.set_cons_succ]
      refine wpAnyH_take (i := 2) (oi := { dst := some 18, op := Op.binOp BinOp.eql 3 (Operand.tmp 17) (Operand.const (Value.int IntKind.i64 0)) 3, type := 4, pos := "laws.go:546", after := #[{ on := 1, ground := Ground.data }], guard := none }) (v := ?v3z) rfl (by kernel_rfl) (by kernel_rfl) (by kernel_rfl) (fun _ _ _ h => h) (Or.inl ⟨by rfl, ?hy3z⟩) hH0h.out ?rest3z
      case hy3z => (intro w9 hS9; go_simp; (try with_reducible rfl))
      simp only [Act.put, List.setIfInBounds_toArray, List.set_cons_zero, List.set_cons_succ]
      refine wpAnyH_take (i := 3) (oi := { dst := some 19, op := Op.move (Operand.tmp 18), type := 4, pos := "laws.go:546", after := #[{ on := 2, ground := Ground.data }], guard := none }) (v := ?v4z) rfl (by kernel_rfl) (by kernel_rfl) (by kernel_rfl) (fun _ _ _ h => h) (Or.inl ⟨by rfl, ?hy4z⟩) hH0h.out ?rest4z
      case hy4z => (intro w9 hS9; go_simp; (try with_reducible rfl))
      simp only [Act.put, List.setIfInBounds_toArray, List.set_cons_zero, List.set_cons_succ]
      refine wpAnyH_take (i := 4) (oi := { dst := some 20, op := Op.move (Operand.tmp 4), type := 3, pos := "laws.go:546", after := #[{ on := 3, ground := Ground.guard }], guard := some (3, true) }) (v := ?v5z) rfl (by kernel_rfl) (by kernel_rfl) (by kernel_rfl) (fun _ _ _ h => h) (Or.inl ⟨by rfl, ?hy5z⟩) hH0h.out ?rest5z
      case hy5z => (intro w9 hS9; go_simp; (try with_reducible rfl))
      simp only [Act.put, List.setIfInBounds_toArray, List.set_cons_zero, List.set_cons_succ]
      refine wpAnyH_take (i := 5) (oi := { dst := some 21, op := Op.binOp BinOp.eql 3 (Operand.tmp 20) (Operand.const (Value.int IntKind.i64 0)) 3, type := 4, pos := "laws.go:546", after := #[{ on := 4, ground := Ground.data }, { on := 3, ground := Ground.guard }], guard := some (3, true) }) (v := ?v6z) rfl (by kernel_rfl) (by kernel_rfl) (by kernel_rfl) (fun _ _ _ h => h) (Or.inl ⟨by rfl, ?hy6z⟩) hH0h.out ?rest6z
      case hy6z => (intro w9 hS9; go_simp; (try with_reducible rfl))
      simp only [Act.put, List.setIfInBounds_toArray, List.set_cons_zero, List.set_cons_succ]
      refine wpAnyH_take (i := 6) (oi := { dst := some 22, op := Op.pick (Operand.tmp 19) (Operand.tmp 21) (Operand.const (Value.bool false)), type := 4, pos := "laws.go:546", after := #[{ on := 3, ground := Ground.data }, { on := 5, ground := Ground.data }], guard := none }) (v := ?v7z) rfl (by kernel_rfl) (by kernel_rfl) (by kernel_rfl) (fun _ _ _ h => h) (Or.inl ⟨by rfl, ?hy7z⟩) hH0h.out ?rest7z
      case hy7z => (intro w9 hS9; go_simp; (try with_reducible rfl))
      simp only [Act.put, List.setIfInBounds_toArray, List.set_cons_zero, List.set_cons_succ]
      refine wpAnyH_take (i := 7) (oi := { dst := some 23, op := Op.move (Operand.tmp 22), type := 4, pos := "laws.go:546", after := #[{ on := 6, ground := Ground.data }, { on := 3, ground := Ground.chain }], guard := none }) (v := ?v8z) rfl (by kernel_rfl) (by kernel_rfl) (by kernel_rfl) (fun _ _ _ h => h) (Or.inl ⟨by rfl, ?hy8z⟩) hH0h.out ?rest8z
      case hy8z => (intro w9 hS9; go_simp; (try with_reducible rfl))
      simp only [Act.put, List.setIfInBounds_toArray, List.set_cons_zero, List.set_cons_succ]
      refine wpAnyH_take (i := 8) (oi := { dst := some 24, op := Op.move (Operand.tmp 3), type := 38, pos := "laws.go:546", after := #[{ on := 7, ground := Ground.guard }], guard := some (7, false) }) (v := undef) rfl (by kernel_rfl) (by kernel_rfl) (by kernel_rfl) (fun _ _ _ h => h) (Or.inr ⟨by rfl, rfl⟩) hH0h.out ?_
      simp only [Act.put, List.setIfInBounds_toArray, List.set_cons_zero, List.set_cons_succ]
      refine wpAnyH_take (i := 9) (oi := { dst := some 25, op := Op.call { callee := Callee.builtin Builtin.len, args := #[Operand.tmp 24], argTypes := #[38] }, type := 3, pos := "laws.go:546", after := #[{ on := 8, ground := Ground.data }, { on := 7, ground := Ground.guard }], guard := some (7, false) }) (v := undef) rfl (by kernel_rfl) (by kernel_rfl) (by kernel_rfl) (fun _ _ _ h => h) (Or.inr ⟨by rfl, rfl⟩) hH0h.out ?_
      simp only [Act.put, List.setIfInBounds_toArray, List.set_cons_zero, List.set_cons_succ]
      refine wpAnyH_take (i := 10) (oi := { dst := some 26, op := Op.binOp BinOp.gtr 3 (Operand.tmp 25) (Operand.const (Value.int IntKind.i64 0)) 3, type := 4, pos := "laws.go:546", after := #[{ on := 9, ground := Ground.data }, { on := 7, ground := Ground.guard }], guard := some (7, false) }) (v := undef) rfl (by kernel_rfl) (by kernel_rfl) (by kernel_rfl) (fun _ _ _ h => h) (Or.inr ⟨by rfl, rfl⟩) hH0h.out ?_
      simp only [Act.put, List.setIfInBounds_toArray, List.set_cons_zero, List.set_cons_succ]
      refine wpAnyH_take (i := 11) (oi := { dst := some 27, op := Op.move (Operand.tmp 26), type := 4, pos := "laws.go:546", after := #[{ on := 10, ground := Ground.data }, { on := 7, ground := Ground.chain }, { on := 7, ground := Ground.guard }], guard := some (7, false) }) (v := undef) rfl (by kernel_rfl) (by kernel_rfl) (by kernel_rfl) (fun _ _ _ h => h) (Or.inr ⟨by rfl, rfl⟩) hH0h.out ?_
      simp only [Act.put, List.setIfInBounds_toArray, List.set_cons_zero, List.set_cons_succ]
      refine wpAnyH_take (i := 12) (oi := { dst := some 28, op := Op.move (Operand.tmp 3), type := 38, pos := "laws.go:546", after := #[{ on := 11, ground := Ground.guard }], guard := some (11, true) }) (v := undef) rfl (by kernel_rfl) (by kernel_rfl) (by kernel_rfl) (fun _ _ _ h => h) (Or.inr ⟨by rfl, rfl⟩) hH0h.out ?_
      simp only [Act.put, List.setIfInBounds_toArray, List.set_cons_zero, List.set_cons_succ]
      refine wpAnyH_take (i := 13) (oi := { dst := some 29, op := Op.slice 38 (Operand.tmp 28) (some (Operand.const (Value.int IntKind.i64 1))) none none, type := 38, pos := "laws.go:546", after := #[{ on := 12, ground := Ground.data }, { on := 11, ground := Ground.guard }], guard := some (11, true) }) (v := undef) rfl (by kernel_rfl) (by kernel_rfl) (by kernel_rfl) (fun _ _ _ h => h) (Or.inr ⟨by rfl, rfl⟩) hH0h.out ?_
      simp only [Act.put, List.setIfInBounds_toArray, List.set_cons_zero, List.set_cons_succ]
      refine wpAnyH_take (i := 14) (oi := { dst := some 30, op := Op.call { callee := Callee.value (Operand.func 25), args := #[Operand.tmp 29], argTypes := #[38] }, type := 3, pos := "laws.go:546", after := #[{ on := 13, ground := Ground.data }, { on := 11, ground := Ground.chain }, { on := 11, ground := Ground.guard }], guard := some (11, true) }) (v := undef) rfl (by kernel_rfl) (by kernel_rfl) (by kernel_rfl) (fun _ _ _ h => h) (Or.inr ⟨by rfl, rfl⟩) hH0h.out ?_
      simp only [Act.put, List.setIfInBounds_toArray, List.set_cons_zero, List.set_cons_succ]
      refine wpAnyH_take (i := 15) (oi := { dst := some 31, op := Op.move (Operand.tmp 4), type := 3, pos := "laws.go:546", after := #[{ on := 11, ground := Ground.guard }], guard := some (11, true) }) (v := undef) rfl (by kernel_rfl) (by kernel_rfl) (by kernel_rfl) (fun _ _ _ h => h) (Or.inr ⟨by rfl, rfl⟩) hH0h.out ?_
      simp only [Act.put, List.setIfInBounds_toArray, List.set_cons_zero, List.set_cons_succ]
      refine wpAnyH_take (i := 16) (oi := { dst := some 32, op := Op.move (Operand.tmp 3), type := 38, pos := "laws.go:546", after := #[{ on := 11, ground := Ground.guard }], guard := some (11, true) }) (v := undef) rfl (by kernel_rfl) (by kernel_rfl) (by kernel_rfl) (fun _ _ _ h => h) (Or.inr ⟨by rfl, rfl⟩) hH0h.out ?_
      simp only [Act.put, List.setIfInBounds_toArray, List.set_cons_zero, List.set_cons_succ]
      refine wpAnyH_take (i := 17) (oi := { dst := some 33, op := Op.indexAddr 38 (Operand.tmp 32) (Operand.const (Value.int IntKind.i64 0)), type := 0, pos := "laws.go:546", after := #[{ on := 16, ground := Ground.data }, { on := 11, ground := Ground.guard }], guard := some (11, true) }) (v := undef) rfl (by kernel_rfl) (by kernel_rfl) (by kernel_rfl) (fun _ _ _ h => h) (Or.inr ⟨by rfl, rfl⟩) hH0h.out ?_
      simp only [Act.put, List.setIfInBounds_toArray, List.set_cons_zero, List.set_cons_succ]
      refine wpAnyH_take (i := 18) (oi := { dst := some 34, op := Op.load 24 (Operand.tmp 33), type := 24, pos := "laws.go:546", after := #[{ on := 17, ground := Ground.data }, { on := 11, ground := Ground.guard }], guard := some (11, true) }) (v := undef) rfl (by kernel_rfl) (by kernel_rfl) (by kernel_rfl) (fun _ _ _ h => h) (Or.inr ⟨by rfl, rfl⟩) hH0h.out ?_
      simp only [Act.put, List.setIfInBounds_toArray, List.set_cons_zero, List.set_cons_succ]
      refine wpAnyH_take (i := 19) (oi := { dst := some 35, op := Op.call { callee := Callee.value (Operand.func 15), args := #[Operand.tmp 34], argTypes := #[24] }, type := 3, pos := "laws.go:546", after := #[{ on := 18, ground := Ground.data }, { on := 14, ground := Ground.chain }, { on := 11, ground := Ground.guard }], guard := some (11, true) }) (v := undef) rfl (by kernel_rfl) (by kernel_rfl) (by kernel_rfl) (fun _ _ _ h => h) (Or.inr ⟨by rfl, rfl⟩) hH0h.out ?_
      simp only [Act.put, List.setIfInBounds_toArray, List.set_cons_zero, List.set_cons_succ]
      refine wpAnyH_take (i := 20) (oi := { dst := some 36, op := Op.binOp BinOp.sub 3 (Operand.tmp 31) (Operand.tmp 35) 3, type := 3, pos := "laws.go:546", after := #[{ on := 15, ground := Ground.data }, { on := 19, ground := Ground.data }, { on := 11, ground := Ground.guard }], guard := some (11, true) }) (v := undef) rfl (by kernel_rfl) (by kernel_rfl) (by kernel_rfl) (fun _ _ _ h => h) (Or.inr ⟨by rfl, rfl⟩) hH0h.out ?_
      simp only [Act.put, List.setIfInBounds_toArray, List.set_cons_zero, List.set_cons_succ]
      refine wpAnyH_take (i := 21) (oi := { dst := some 37, op := Op.binOp BinOp.eql 3 (Operand.tmp 30) (Operand.tmp 36) 3, type := 4, pos := "laws.go:546", after := #[{ on := 14, ground := Ground.data }, { on := 20, ground := Ground.data }, { on := 11, ground := Ground.guard }], guard := some (11, true) }) (v := undef) rfl (by kernel_rfl) (by kernel_rfl) (by kernel_rfl) (fun _ _ _ h => h) (Or.inr ⟨by rfl, rfl⟩) hH0h.out ?_
      simp only [Act.put, List.setIfInBounds_toArray, List.set_cons_zero, List.set_cons_succ]
      refine wpAnyH_take (i := 22) (oi := { dst := some 38, op := Op.pick (Operand.tmp 27) (Operand.tmp 37) (Operand.const (Value.bool false)), type := 4, pos := "laws.go:546", after := #[{ on := 11, ground := Ground.data }, { on := 21, ground := Ground.data }, { on := 7, ground := Ground.guard }], guard := some (7, false) }) (v := undef) rfl (by kernel_rfl) (by kernel_rfl) (by kernel_rfl) (fun _ _ _ h => h) (Or.inr ⟨by rfl, rfl⟩) hH0h.out ?_
      simp only [Act.put, List.setIfInBounds_toArray, List.set_cons_zero, List.set_cons_succ]
      refine wpAnyH_take (i := 23) (oi := { dst := some 39, op := Op.pick (Operand.tmp 23) (Operand.const (Value.bool true)) (Operand.tmp 38), type := 4, pos := "laws.go:546", after := #[{ on := 7, ground := Ground.data }, { on := 22, ground := Ground.data }], guard := none }) (v := ?v24z) rfl (by kernel_rfl) (by kernel_rfl) (by kernel_rfl) (fun _ _ _ h => h) (Or.inl ⟨by rfl, ?hy24z⟩) hH0h.out ?rest24z
      case hy24z => (intro w9 hS9; go_simp; (try with_reducible rfl))
      simp only [Act.put, List.setIfInBounds_toArray, List.set_cons_zero, List.set_cons_succ]
      refine wpAnyH_take (i := 24) (oi := { dst := some 40, op := Op.move (Operand.tmp 39), type := 4, pos := "laws.go:546", after := #[{ on := 23, ground := Ground.data }, { on := 19, ground := Ground.chain }], guard := none }) (v := ?v25z) rfl (by kernel_rfl) (by kernel_rfl) (by kernel_rfl) (fun _ _ _ h => h) (Or.inl ⟨by rfl, ?hy25z⟩) hH0h.out ?rest25z
      case hy25z => (intro w9 hS9; go_simp; (try with_reducible rfl))
      simp only [Act.put, List.setIfInBounds_toArray, List.set_cons_zero, List.set_cons_succ]
      refine wpAnyH_ready (rs := [25]) (by kernel_rfl) (by simp) ?_
      refine AllReadyH.cons (o := { dst := some 41, op := Op.call { callee := Callee.value (Operand.func 14), args := #[], argTypes := #[] }, type := 4, pos := "laws.go:546", after := #[{ on := 24, ground := Ground.chain }, { on := 24, ground := Ground.guard }], guard := some (24, true) }) rfl (fun K hK => ?_) (AllReadyH.nil)
      go_simp
      go_at_call 14
      refine (alive_any _).mono ?_
      rintro e w6 ⟨rfl, hB6⟩
      have HB6 := hide (next hH0h.out hB6)
      clear hB6
      go_wp2_with fail
      refine hK.out _ _ HB6.out (fun hH25 => ?_)
      clear hK K
      try simp only [Act.put, List.setIfInBounds_toArray, List.set_cons_zero, List.set_cons_succ]
      have hH25h := hide (show Below w3.heap.size w3 _ from hH25)
      clear hH25
      refine wpAnyH_take (i := 26) (oi := { dst := some 42, op := Op.pick (Operand.tmp 40) (Operand.tmp 41) (Operand.const (Value.bool false)), type := 4, pos := "laws.go:546", after := #[{ on := 24, ground := Ground.data }, { on := 25, ground := Ground.data }], guard := none }) (v := ?v26z) rfl (by kernel_rfl) (by kernel_rfl) (by kernel_rfl) (fun _ _ _ h => h) (Or.inl ⟨by rfl, ?hy26z⟩) hH25h.out ?rest26z
      case hy26z => (intro w9 hS9; go_simp; (try with_reducible rfl))
      simp only [Act.put, List.setIfInBounds_toArray, List.set_cons_zero, List.set_cons_succ]
      refine wpAnyH_take (i := 27) (oi := { dst := some 2, op := Op.assign (Operand.tmp 42), type := 4, pos := "laws.go:546", after := #[{ on := 26, ground := Ground.data }, { on := 25, ground := Ground.chain }, { on := 0, ground := Ground.phase }, { on := 1, ground := Ground.phase }, { on := 2, ground := Ground.phase }, { on := 3, ground := Ground.phase }, { on := 4, ground := Ground.phase }, { on := 5, ground := Ground.phase }, { on := 6, ground := Ground.phase }, { on := 7, ground := Ground.phase }, { on := 8, ground := Ground.phase }, { on := 9, ground := Ground.phase }, { on := 10, ground := Ground.phase }, { on := 11, ground := Ground.phase }, { on := 12, ground := Ground.phase }, { on := 13, ground := Ground.phase }, { on := 14, ground := Ground.phase }, { on := 15, ground := Ground.phase }, { on := 16, ground := Ground.phase }, { on := 17, ground := Ground.phase }, { on := 18, ground := Ground.phase }, { on := 19, ground := Ground.phase }, { on := 20, ground := Ground.phase }, { on := 21, ground := Ground.phase }, { on := 22, ground := Ground.phase }, { on := 23, ground := Ground.phase }, { on := 24, ground := Ground.phase }, { on := 25, ground := Ground.phase }, { on := 26, ground := Ground.phase }], guard := none }) (v := ?v27z) rfl (by kernel_rfl) (by kernel_rfl) (by kernel_rfl) (fun _ _ _ h => h) (Or.inl ⟨by rfl, ?hy27z⟩) hH25h.out ?rest27z
      case hy27z => (intro w9 hS9; go_simp; (try with_reducible rfl))
      simp only [Act.put, List.setIfInBounds_toArray, List.set_cons_zero, List.set_cons_succ]
      refine wpAnyH_done (by kernel_rfl) ?_ _
      refine NoPanic.normal ?_
      go_wp2_with fail
      all_goals
        go_ret
        exact ⟨rfl, next hb HB6.out⟩
    · have hN : 0 < rows.length := by omega
      obtain ⟨x, hx⟩ : ∃ x, rows[0]? = some x := ⟨_, List.getElem?_eq_getElem hN⟩
      obtain ⟨hs1, ht0, ht1, hu0, hu1⟩ := useSum_first hr HIN.out hx
      rw [HS.out] at hs1
      obtain ⟨b, off, A3, c4, rfl, hbl, hc1, hX⟩ := HU3.out 0 x hx
      have HX := hide hX
      obtain ⟨r, hR⟩ : ∃ r, rows.drop 1 = r := ⟨_, rfl⟩
      have hrl : r.length = rows.length - 1 := by rw [← hR, List.length_drop]
      have HUR0 : RowsAt w3 (some ⟨b, off + 1, none⟩) r := (fun i y hy => by
        rw [← hR, List.getElem?_drop] at hy
        obtain ⟨b', off', A', c', e, k1, k2, k3⟩ := HU3.out _ _ hy
        injection e with e
        injection e with e1 e2
        subst e1 e2
        exact ⟨b, off + 1, A', c', rfl, k1, by rw [Nat.add_assoc]; exact k2, k3⟩)
      have HUR : Hid (RowsAt w3 (if c3 = 1 then some ⟨b, off, none⟩ else some ⟨b, off + 1, none⟩) r) := hide (by
        split
        · intro i y hy
          have := (List.getElem?_eq_some_iff.1 hy).1
          omega
        · exact HUR0)
      clear HUR0
      have HRX : Hid (∀ y ∈ r, y.length ≤ 1048576) := hide (fun y hy => HRR.out y (by rw [← hR] at hy; exact List.mem_of_mem_drop hy))
      have HXL : Hid (x.length ≤ 1048576) := hide (HRR.out x (List.mem_of_getElem? hx))
      obtain ⟨u, hu⟩ : ∃ u, useSumW r = u := ⟨_, rfl⟩
      obtain ⟨t, ht⟩ : ∃ t, sumW x = t := ⟨_, rfl⟩
      rw [hR, hu, ht] at hs1
      rw [hR, hu] at hu0 hu1
      rw [ht] at ht0 ht1
      have HCU : Hid (∀ W, Below w3.heap.size w3 W → ∀ n c', n = r.length → Calls Tryd.prog 25 #[.slice (if c3 = 1 then some ⟨b, off, none⟩ else some ⟨b, off + 1, none⟩) n c'] W fun e w' => e = .returned (.int .i64 u) ∧ Below W.heap.size W w') := hide (fun W hW n c' hn => by
        subst hn
        have := implUseSum_any _ c' r W (HUR.out.below hW) (by omega) HRX.out
        rwa [hu] at this)
      have HCS : Hid (∀ W, Below w3.heap.size w3 W → Calls Tryd.prog 15 #[.slice A3 x.length c4] W fun e w' => e = .returned (.int .i64 t) ∧ W = w') := hide (fun W hW => by
        have := lawSum_any _ c4 x W (HX.out.below hW) HXL.out
        rwa [ht] at this)
      have HRL := hide hrl
      have hz1 : ((rows.length : Int) == 0) = false := beq_false_of_ne (by omega)
      have hgt : decide ((0 : Int) < rows.length) = true := decide_eq_true (by omega)
      have hw : IntKind.i64.wrap (s - t) = u := (IntWalk.i64_in _ (by omega)).trans (by omega)
      have huu : (u == u) = true := by simp
      have hy0 : (0 : Int) < rows.length := by omega
      have hy1 : (1 : Int) ≤ rows.length := by omega
      have hy2 : 1 ≤ rows.length := by omega
      have hy3 : (rows.length : Int) ≤ c3 := by omega
      rw [Nat.add_zero] at hc1
      clear h0 hx hR hrl hu ht hs1 hX
      go_wp2_with fail
      refine wp_region_noPanic ?_
      refine wp_region_held_drew (S := fun W => Below w3.heap.size w3 W) (by kernel_rfl) (by go_grown) (fun hH0 => ?_)
      have hH0h := hide (show Below w3.heap.size w3 _ from hH0)
      clear hH0
      refine wpAnyH_take (i := 0) (oi := { dst := some 16, op := Op.move (Operand.tmp 3), type := 38, pos := "laws.go:546", after := #[], guard := none }) (v := ?v1o) rfl (by kernel_rfl) (by kernel_rfl) (by kernel_rfl) (fun _ _ _ h => h) (Or.inl ⟨by rfl, ?hy1o⟩) hH0h.out ?rest1o
      case hy1o => (intro w9 hS9; go_simp; (try with_reducible rfl))
      simp only [Act.put, List.setIfInBounds_toArray, List.set_cons_zero, List.set_cons_succ]
      refine wpAnyH_take (i := 1) (oi := { dst := some 17, op := Op.call { callee := Callee.builtin Builtin.len, args := #[Operand.tmp 16], argTypes := #[38] }, type := 3, pos := "laws.go:546", after := #[{ on := 0, ground := Ground.data }], guard := none }) (v := ?v2o) rfl (by kernel_rfl) (by kernel_rfl) (by kernel_rfl) (fun _ _ _ h => h) (Or.inl ⟨by rfl, ?hy2o⟩) hH0h.out ?rest2o
      case hy2o => (intro w9 hS9; go_simp; (try with_reducible rfl))
      simp only [Act.put, List.setIfInBounds_toArray, List.set_cons_zero, List.set_cons_succ]
      refine wpAnyH_take (i := 2) (oi := { dst := some 18, op := Op.binOp BinOp.eql 3 (Operand.tmp 17) (Operand.const (Value.int IntKind.i64 0)) 3, type := 4, pos := "laws.go:546", after := #[{ on := 1, ground := Ground.data }], guard := none }) (v := ?v3o) rfl (by kernel_rfl) (by kernel_rfl) (by kernel_rfl) (fun _ _ _ h => h) (Or.inl ⟨by rfl, ?hy3o⟩) hH0h.out ?rest3o
      case hy3o => (intro w9 hS9; go_simp; (try with_reducible rfl))
      simp only [Act.put, List.setIfInBounds_toArray, List.set_cons_zero, List.set_cons_succ]
      refine wpAnyH_take (i := 3) (oi := { dst := some 19, op := Op.move (Operand.tmp 18), type := 4, pos := "laws.go:546", after := #[{ on := 2, ground := Ground.data }], guard := none }) (v := ?v4o) rfl (by kernel_rfl) (by kernel_rfl) (by kernel_rfl) (fun _ _ _ h => h) (Or.inl ⟨by rfl, ?hy4o⟩) hH0h.out ?rest4o
      case hy4o => (intro w9 hS9; go_simp; (try with_reducible rfl))
      simp only [Act.put, List.setIfInBounds_toArray, List.set_cons_zero, List.set_cons_succ]
      refine wpAnyH_take (i := 4) (oi := { dst := some 20, op := Op.move (Operand.tmp 4), type := 3, pos := "laws.go:546", after := #[{ on := 3, ground := Ground.guard }], guard := some (3, true) }) (v := undef) rfl (by kernel_rfl) (by kernel_rfl) (by kernel_rfl) (fun _ _ _ h => h) (Or.inr ⟨by rfl, rfl⟩) hH0h.out ?_
      simp only [Act.put, List.setIfInBounds_toArray, List.set_cons_zero, List.set_cons_succ]
      refine wpAnyH_take (i := 5) (oi := { dst := some 21, op := Op.binOp BinOp.eql 3 (Operand.tmp 20) (Operand.const (Value.int IntKind.i64 0)) 3, type := 4, pos := "laws.go:546", after := #[{ on := 4, ground := Ground.data }, { on := 3, ground := Ground.guard }], guard := some (3, true) }) (v := undef) rfl (by kernel_rfl) (by kernel_rfl) (by kernel_rfl) (fun _ _ _ h => h) (Or.inr ⟨by rfl, rfl⟩) hH0h.out ?_
      simp only [Act.put, List.setIfInBounds_toArray, List.set_cons_zero, List.set_cons_succ]
      refine wpAnyH_take (i := 6) (oi := { dst := some 22, op := Op.pick (Operand.tmp 19) (Operand.tmp 21) (Operand.const (Value.bool false)), type := 4, pos := "laws.go:546", after := #[{ on := 3, ground := Ground.data }, { on := 5, ground := Ground.data }], guard := none }) (v := ?v7o) rfl (by kernel_rfl) (by kernel_rfl) (by kernel_rfl) (fun _ _ _ h => h) (Or.inl ⟨by rfl, ?hy7o⟩) hH0h.out ?rest7o
      case hy7o => (intro w9 hS9; go_simp; (try with_reducible rfl))
      simp only [Act.put, List.setIfInBounds_toArray, List.set_cons_zero, List.set_cons_succ]
      refine wpAnyH_take (i := 7) (oi := { dst := some 23, op := Op.move (Operand.tmp 22), type := 4, pos := "laws.go:546", after := #[{ on := 6, ground := Ground.data }, { on := 3, ground := Ground.chain }], guard := none }) (v := ?v8o) rfl (by kernel_rfl) (by kernel_rfl) (by kernel_rfl) (fun _ _ _ h => h) (Or.inl ⟨by rfl, ?hy8o⟩) hH0h.out ?rest8o
      case hy8o => (intro w9 hS9; go_simp; (try with_reducible rfl))
      simp only [Act.put, List.setIfInBounds_toArray, List.set_cons_zero, List.set_cons_succ]
      refine wpAnyH_take (i := 8) (oi := { dst := some 24, op := Op.move (Operand.tmp 3), type := 38, pos := "laws.go:546", after := #[{ on := 7, ground := Ground.guard }], guard := some (7, false) }) (v := ?v9o) rfl (by kernel_rfl) (by kernel_rfl) (by kernel_rfl) (fun _ _ _ h => h) (Or.inl ⟨by rfl, ?hy9o⟩) hH0h.out ?rest9o
      case hy9o => (intro w9 hS9; go_simp; (try with_reducible rfl))
      simp only [Act.put, List.setIfInBounds_toArray, List.set_cons_zero, List.set_cons_succ]
      refine wpAnyH_take (i := 9) (oi := { dst := some 25, op := Op.call { callee := Callee.builtin Builtin.len, args := #[Operand.tmp 24], argTypes := #[38] }, type := 3, pos := "laws.go:546", after := #[{ on := 8, ground := Ground.data }, { on := 7, ground := Ground.guard }], guard := some (7, false) }) (v := ?v10o) rfl (by kernel_rfl) (by kernel_rfl) (by kernel_rfl) (fun _ _ _ h => h) (Or.inl ⟨by rfl, ?hy10o⟩) hH0h.out ?rest10o
      case hy10o => (intro w9 hS9; go_simp; (try with_reducible rfl))
      simp only [Act.put, List.setIfInBounds_toArray, List.set_cons_zero, List.set_cons_succ]
      refine wpAnyH_take (i := 10) (oi := { dst := some 26, op := Op.binOp BinOp.gtr 3 (Operand.tmp 25) (Operand.const (Value.int IntKind.i64 0)) 3, type := 4, pos := "laws.go:546", after := #[{ on := 9, ground := Ground.data }, { on := 7, ground := Ground.guard }], guard := some (7, false) }) (v := ?v11o) rfl (by kernel_rfl) (by kernel_rfl) (by kernel_rfl) (fun _ _ _ h => h) (Or.inl ⟨by rfl, ?hy11o⟩) hH0h.out ?rest11o
      case hy11o => (intro w9 hS9; go_simp; (try with_reducible rfl))
      simp only [Act.put, List.setIfInBounds_toArray, List.set_cons_zero, List.set_cons_succ]
      refine wpAnyH_take (i := 11) (oi := { dst := some 27, op := Op.move (Operand.tmp 26), type := 4, pos := "laws.go:546", after := #[{ on := 10, ground := Ground.data }, { on := 7, ground := Ground.chain }, { on := 7, ground := Ground.guard }], guard := some (7, false) }) (v := ?v12o) rfl (by kernel_rfl) (by kernel_rfl) (by kernel_rfl) (fun _ _ _ h => h) (Or.inl ⟨by rfl, ?hy12o⟩) hH0h.out ?rest12o
      case hy12o => (intro w9 hS9; go_simp; (try with_reducible rfl))
      simp only [Act.put, List.setIfInBounds_toArray, List.set_cons_zero, List.set_cons_succ]
      refine wpAnyH_take (i := 12) (oi := { dst := some 28, op := Op.move (Operand.tmp 3), type := 38, pos := "laws.go:546", after := #[{ on := 11, ground := Ground.guard }], guard := some (11, true) }) (v := ?v13o) rfl (by kernel_rfl) (by kernel_rfl) (by kernel_rfl) (fun _ _ _ h => h) (Or.inl ⟨by rfl, ?hy13o⟩) hH0h.out ?rest13o
      case hy13o => (intro w9 hS9; go_simp; (try with_reducible rfl))
      simp only [Act.put, List.setIfInBounds_toArray, List.set_cons_zero, List.set_cons_succ]
      refine wpAnyH_take (i := 13) (oi := { dst := some 29, op := Op.slice 38 (Operand.tmp 28) (some (Operand.const (Value.int IntKind.i64 1))) none none, type := 38, pos := "laws.go:546", after := #[{ on := 12, ground := Ground.data }, { on := 11, ground := Ground.guard }], guard := some (11, true) }) (v := ?v14o) rfl (by kernel_rfl) (by kernel_rfl) (by kernel_rfl) (fun _ _ _ h => h) (Or.inl ⟨by rfl, ?hy14o⟩) hH0h.out ?rest14o
      case hy14o => (intro w9 hS9; go_simp; (try with_reducible rfl))
      simp only [Act.put, List.setIfInBounds_toArray, List.set_cons_zero, List.set_cons_succ]
      refine wpAnyH_take (i := 15) (oi := { dst := some 31, op := Op.move (Operand.tmp 4), type := 3, pos := "laws.go:546", after := #[{ on := 11, ground := Ground.guard }], guard := some (11, true) }) (v := ?v15o) rfl (by kernel_rfl) (by kernel_rfl) (by kernel_rfl) (fun _ _ _ h => h) (Or.inl ⟨by rfl, ?hy15o⟩) hH0h.out ?rest15o
      case hy15o => (intro w9 hS9; go_simp; (try with_reducible rfl))
      simp only [Act.put, List.setIfInBounds_toArray, List.set_cons_zero, List.set_cons_succ]
      refine wpAnyH_take (i := 16) (oi := { dst := some 32, op := Op.move (Operand.tmp 3), type := 38, pos := "laws.go:546", after := #[{ on := 11, ground := Ground.guard }], guard := some (11, true) }) (v := ?v16o) rfl (by kernel_rfl) (by kernel_rfl) (by kernel_rfl) (fun _ _ _ h => h) (Or.inl ⟨by rfl, ?hy16o⟩) hH0h.out ?rest16o
      case hy16o => (intro w9 hS9; go_simp; (try with_reducible rfl))
      simp only [Act.put, List.setIfInBounds_toArray, List.set_cons_zero, List.set_cons_succ]
      refine wpAnyH_take (i := 17) (oi := { dst := some 33, op := Op.indexAddr 38 (Operand.tmp 32) (Operand.const (Value.int IntKind.i64 0)), type := 0, pos := "laws.go:546", after := #[{ on := 16, ground := Ground.data }, { on := 11, ground := Ground.guard }], guard := some (11, true) }) (v := ?v17o) rfl (by kernel_rfl) (by kernel_rfl) (by kernel_rfl) (fun _ _ _ h => h) (Or.inl ⟨by rfl, ?hy17o⟩) hH0h.out ?rest17o
      case hy17o => (intro w9 hS9; go_simp; (try with_reducible rfl))
      simp only [Act.put, List.setIfInBounds_toArray, List.set_cons_zero, List.set_cons_succ]
      refine wpAnyH_take (i := 18) (oi := { dst := some 34, op := Op.load 24 (Operand.tmp 33), type := 24, pos := "laws.go:546", after := #[{ on := 17, ground := Ground.data }, { on := 11, ground := Ground.guard }], guard := some (11, true) }) (v := ?v18o) rfl (by kernel_rfl) (by kernel_rfl) (by kernel_rfl) (fun _ _ _ h => h) (Or.inl ⟨by rfl, ?hy18o⟩) hH0h.out ?rest18o
      case hy18o => (intro w9 hS9; have hc9 := (Below.cell (show Below w3.heap.size w3 w9 from hS9) hbl).trans hc1; go_simp; (try with_reducible rfl))
      simp only [Act.put, List.setIfInBounds_toArray, List.set_cons_zero, List.set_cons_succ]
      refine wpAnyH_ready (rs := [14]) (by kernel_rfl) (by simp) ?_
      refine AllReadyH.cons (o := { dst := some 30, op := Op.call { callee := Callee.value (Operand.func 25), args := #[Operand.tmp 29], argTypes := #[38] }, type := 3, pos := "laws.go:546", after := #[{ on := 13, ground := Ground.data }, { on := 11, ground := Ground.chain }, { on := 11, ground := Ground.guard }], guard := some (11, true) }) rfl (fun K hK => ?_) (AllReadyH.nil)
      go_simp
      go_at_call 25
      refine (HCU.out _ hH0h.out _ _ HRL.out.symm).mono ?_
      rintro e w14 ⟨rfl, hB14⟩
      have HB14 := hide (next hH0h.out hB14)
      clear hB14
      try dsimp only
      refine hK.out _ _ HB14.out (fun hH14 => ?_)
      clear hK K
      try simp only [Act.put, List.setIfInBounds_toArray, List.set_cons_zero, List.set_cons_succ]
      have hH14h := hide (show Below w3.heap.size w3 _ from hH14)
      clear hH14
      refine wpAnyH_ready (rs := [19]) (by kernel_rfl) (by simp) ?_
      refine AllReadyH.cons (o := { dst := some 35, op := Op.call { callee := Callee.value (Operand.func 15), args := #[Operand.tmp 34], argTypes := #[24] }, type := 3, pos := "laws.go:546", after := #[{ on := 18, ground := Ground.data }, { on := 14, ground := Ground.chain }, { on := 11, ground := Ground.guard }], guard := some (11, true) }) rfl (fun K hK => ?_) (AllReadyH.nil)
      go_simp
      go_at_call 15
      refine (HCS.out _ hH14h.out).mono ?_
      rintro e w19 ⟨rfl, rfl⟩
      try dsimp only
      refine hK.out _ _ hH14h.out (fun hH19 => ?_)
      clear hK K
      try simp only [Act.put, List.setIfInBounds_toArray, List.set_cons_zero, List.set_cons_succ]
      have hH19h := hide (show Below w3.heap.size w3 _ from hH19)
      clear hH19
      refine wpAnyH_take (i := 20) (oi := { dst := some 36, op := Op.binOp BinOp.sub 3 (Operand.tmp 31) (Operand.tmp 35) 3, type := 3, pos := "laws.go:546", after := #[{ on := 15, ground := Ground.data }, { on := 19, ground := Ground.data }, { on := 11, ground := Ground.guard }], guard := some (11, true) }) (v := ?v19o) rfl (by kernel_rfl) (by kernel_rfl) (by kernel_rfl) (fun _ _ _ h => h) (Or.inl ⟨by rfl, ?hy19o⟩) hH19h.out ?rest19o
      case hy19o => (intro w9 hS9; go_simp; (try with_reducible rfl))
      simp only [Act.put, List.setIfInBounds_toArray, List.set_cons_zero, List.set_cons_succ]
      refine wpAnyH_take (i := 21) (oi := { dst := some 37, op := Op.binOp BinOp.eql 3 (Operand.tmp 30) (Operand.tmp 36) 3, type := 4, pos := "laws.go:546", after := #[{ on := 14, ground := Ground.data }, { on := 20, ground := Ground.data }, { on := 11, ground := Ground.guard }], guard := some (11, true) }) (v := ?v20o) rfl (by kernel_rfl) (by kernel_rfl) (by kernel_rfl) (fun _ _ _ h => h) (Or.inl ⟨by rfl, ?hy20o⟩) hH19h.out ?rest20o
      case hy20o => (intro w9 hS9; go_simp; (try with_reducible rfl))
      simp only [Act.put, List.setIfInBounds_toArray, List.set_cons_zero, List.set_cons_succ]
      refine wpAnyH_take (i := 22) (oi := { dst := some 38, op := Op.pick (Operand.tmp 27) (Operand.tmp 37) (Operand.const (Value.bool false)), type := 4, pos := "laws.go:546", after := #[{ on := 11, ground := Ground.data }, { on := 21, ground := Ground.data }, { on := 7, ground := Ground.guard }], guard := some (7, false) }) (v := ?v21o) rfl (by kernel_rfl) (by kernel_rfl) (by kernel_rfl) (fun _ _ _ h => h) (Or.inl ⟨by rfl, ?hy21o⟩) hH19h.out ?rest21o
      case hy21o => (intro w9 hS9; go_simp; (try with_reducible rfl))
      simp only [Act.put, List.setIfInBounds_toArray, List.set_cons_zero, List.set_cons_succ]
      refine wpAnyH_take (i := 23) (oi := { dst := some 39, op := Op.pick (Operand.tmp 23) (Operand.const (Value.bool true)) (Operand.tmp 38), type := 4, pos := "laws.go:546", after := #[{ on := 7, ground := Ground.data }, { on := 22, ground := Ground.data }], guard := none }) (v := ?v22o) rfl (by kernel_rfl) (by kernel_rfl) (by kernel_rfl) (fun _ _ _ h => h) (Or.inl ⟨by rfl, ?hy22o⟩) hH19h.out ?rest22o
      case hy22o => (intro w9 hS9; go_simp; (try with_reducible rfl))
      simp only [Act.put, List.setIfInBounds_toArray, List.set_cons_zero, List.set_cons_succ]
      refine wpAnyH_take (i := 24) (oi := { dst := some 40, op := Op.move (Operand.tmp 39), type := 4, pos := "laws.go:546", after := #[{ on := 23, ground := Ground.data }, { on := 19, ground := Ground.chain }], guard := none }) (v := ?v23o) rfl (by kernel_rfl) (by kernel_rfl) (by kernel_rfl) (fun _ _ _ h => h) (Or.inl ⟨by rfl, ?hy23o⟩) hH19h.out ?rest23o
      case hy23o => (intro w9 hS9; go_simp; (try with_reducible rfl))
      simp only [Act.put, List.setIfInBounds_toArray, List.set_cons_zero, List.set_cons_succ]
      refine wpAnyH_ready (rs := [25]) (by kernel_rfl) (by simp) ?_
      refine AllReadyH.cons (o := { dst := some 41, op := Op.call { callee := Callee.value (Operand.func 14), args := #[], argTypes := #[] }, type := 4, pos := "laws.go:546", after := #[{ on := 24, ground := Ground.chain }, { on := 24, ground := Ground.guard }], guard := some (24, true) }) rfl (fun K hK => ?_) (AllReadyH.nil)
      go_simp
      go_at_call 14
      refine (alive_any _).mono ?_
      rintro e w6 ⟨rfl, hB6⟩
      have HB6 := hide (next hH19h.out hB6)
      clear hB6
      try dsimp only
      refine hK.out _ _ HB6.out (fun hH25 => ?_)
      clear hK K
      try simp only [Act.put, List.setIfInBounds_toArray, List.set_cons_zero, List.set_cons_succ]
      have hH25h := hide (show Below w3.heap.size w3 _ from hH25)
      clear hH25
      refine wpAnyH_take (i := 26) (oi := { dst := some 42, op := Op.pick (Operand.tmp 40) (Operand.tmp 41) (Operand.const (Value.bool false)), type := 4, pos := "laws.go:546", after := #[{ on := 24, ground := Ground.data }, { on := 25, ground := Ground.data }], guard := none }) (v := ?v24o) rfl (by kernel_rfl) (by kernel_rfl) (by kernel_rfl) (fun _ _ _ h => h) (Or.inl ⟨by rfl, ?hy24o⟩) hH25h.out ?rest24o
      case hy24o => (intro w9 hS9; go_simp; (try with_reducible rfl))
      simp only [Act.put, List.setIfInBounds_toArray, List.set_cons_zero, List.set_cons_succ]
      refine wpAnyH_take (i := 27) (oi := { dst := some 2, op := Op.assign (Operand.tmp 42), type := 4, pos := "laws.go:546", after := #[{ on := 26, ground := Ground.data }, { on := 25, ground := Ground.chain }, { on := 0, ground := Ground.phase }, { on := 1, ground := Ground.phase }, { on := 2, ground := Ground.phase }, { on := 3, ground := Ground.phase }, { on := 4, ground := Ground.phase }, { on := 5, ground := Ground.phase }, { on := 6, ground := Ground.phase }, { on := 7, ground := Ground.phase }, { on := 8, ground := Ground.phase }, { on := 9, ground := Ground.phase }, { on := 10, ground := Ground.phase }, { on := 11, ground := Ground.phase }, { on := 12, ground := Ground.phase }, { on := 13, ground := Ground.phase }, { on := 14, ground := Ground.phase }, { on := 15, ground := Ground.phase }, { on := 16, ground := Ground.phase }, { on := 17, ground := Ground.phase }, { on := 18, ground := Ground.phase }, { on := 19, ground := Ground.phase }, { on := 20, ground := Ground.phase }, { on := 21, ground := Ground.phase }, { on := 22, ground := Ground.phase }, { on := 23, ground := Ground.phase }, { on := 24, ground := Ground.phase }, { on := 25, ground := Ground.phase }, { on := 26, ground := Ground.phase }], guard := none }) (v := ?v25o) rfl (by kernel_rfl) (by kernel_rfl) (by kernel_rfl) (fun _ _ _ h => h) (Or.inl ⟨by rfl, ?hy25o⟩) hH25h.out ?rest25o
      case hy25o => (intro w9 hS9; go_simp; (try with_reducible rfl))
      simp only [Act.put, List.setIfInBounds_toArray, List.set_cons_zero, List.set_cons_succ]
      refine wpAnyH_done (by kernel_rfl) ?_ _
      refine NoPanic.normal ?_
      go_wp2_with fail
      all_goals
        go_ret
        exact ⟨rfl, next hb HB6.out⟩
end Go.Proofs.YtndcanllkmfahaaDoor
