/- For every list of items, every list of numbers and every number the exact law of UnitCost answers true, and its arguments read as they did.
   Conditions: none. -/
import Derived.Test.YtjegebnnlomcpaaRead2
import Derived.Test.YtjegebnnlomcpaaUnitSp
import Derived.Test.YtjegebnnlomcpaaExItemsValid
import Derived.Test.YtjegebnnlomcpaaExKit
namespace Go.Proofs.Ytjegebnnlomcpaa
open Go.RowKit Go.ChangeShapes Go.WideShapes Go.ChangeAt

theorem eqFrac_same (a b : Int) (w : World) :
    Calls Try.prog 9 #[.agg #[.int .i64 a, .int .i64 b], .agg #[.int .i64 a, .int .i64 b]] w fun e w' => e = .returned (.bool true) ∧ Below w.heap.size w w' := by
  have ha : (a != a) = false := by simp
  have hb : (b != b) = false := by simp
  go_enter Try.func9, Try.ntmps9
  go_wp2_with fail
  go_ret
  exact ⟨rfl, by go_grown⟩

set_option maxHeartbeats 8000000 in
theorem exactUnitCost_any (A A' : Option Addr) (c c' : Nat) (l : List Item) (xs : List Int) (idx : Int) (w : World) (hA : ItemsAt w A l) (hl : l.length ≤ 9223372036854775807) (hp : ∀ x ∈ l, x.parts.length ≤ 9223372036854775807)
    (hX : IntsAt w A' xs) (hx : xs.length ≤ 9223372036854775807) :
    Calls Try.prog 3 #[.slice A l.length c, .slice A' xs.length c', .int .i64 idx] w fun e w' => e = .returned (.bool true) ∧ Below w.heap.size w w' := by
  have HP := hide hp
  clear hp
  by_cases hx1 : xs.length ≤ 1048576
  · by_cases h : szL 1048576 l < 0
    · go_enter Try.func3, Try.ntmps3
      go_wp2_with fail
      refine (szItemS_any _ _ _ _ hA hl HP.out).mono ?_
      rintro e w1 ⟨rfl, hB1⟩
      go_wp2_with fail
      go_ret
      exact ⟨rfl, hB1⟩
    · obtain ⟨hl1, hp1⟩ := szL_le h
      have HP1 := hide hp1
      clear hp1
      obtain ⟨⟨⟨a, b⟩, β⟩, HU⟩ : ∃ u, Hid (unitL l xs idx = u) := ⟨_, hide rfl⟩
      have hββ : (β != β) = false := by cases β <;> rfl
      go_enter Try.func3, Try.ntmps3
      go_wp2_with fail
      refine (szItemS_any _ _ _ _ hA hl HP.out).mono ?_
      rintro e w1 ⟨rfl, hB1⟩
      go_wp2_with fail
      refine (toItemS_any _ _ _ _ (hA.below hB1) hl1 HP1.out).mono ?_
      rintro e w2 ⟨rfl, hO2, hB2⟩
      have hb2 := next hB1 hB2
      go_wp2_with fail
      refine (toIntS_any _ _ _ _ (hX.below hb2) hx1).mono ?_
      rintro e w3 ⟨rfl, hO3, hB3⟩
      have hb3 := next hb2 hB3
      go_wp2_with fail
      refine (specUnitCost_any _ _ _ _ _ _ _ _ (hO2.below hB3).at_ hl1 HP1.out hO3.at_ hx1).mono ?_
      rintro e w4 ⟨rfl, hB4⟩
      rw [HU.out]
      have hb4 := next hb3 hB4
      have hba := hb4.alloc hb4.size (.cells #[.int .i64 (a : Nat), .int .i64 (b : Nat)] 26)
      have hx4 := heap_alloc_new w4 (.cells #[.int .i64 (a : Nat), .int .i64 (b : Nat)] 26)
      go_upto_region 8 with fail
      obtain ⟨wa, hwa⟩ : ∃ wa, w4.alloc (.cells #[.int .i64 (a : Nat), .int .i64 (b : Nat)] 26) = wa := ⟨_, rfl⟩
      rw [hwa] at hx4 hba ⊢
      clear hwa
      go_wp2_with fail
      refine (toItemS_any _ _ _ _ (hA.below hba) hl1 HP1.out).mono ?_
      rintro e w5 ⟨rfl, hO5, hB5⟩
      have hb5 := next hba hB5
      have hx5 := (hB5.block w4.heap.size (heap_ltU hx4)).trans hx4
      clear hO2 hO3 hB1 hB2 hB3 hB4 hb2 hb3 hba hx4
      go_wp2_with fail
      refine (toIntS_any _ _ _ _ (hX.below hb5) hx1).mono ?_
      rintro e w6 ⟨rfl, hO6, hB6⟩
      have hb6 := next hb5 hB6
      have hx6 := (hB6.block w4.heap.size (heap_ltU hx5)).trans hx5
      have hO56 := hO5.below hB6
      clear hx5 hO5
      go_wp2_with fail
      refine (implUnitCost_any _ _ _ _ _ _ _ _ hO56.at_ hl1 HP1.out hO6.at_ hx1).mono ?_
      rintro e w7 ⟨rfl, hB7⟩
      rw [HU.out]
      have hb7 := next hb6 hB7
      have hx7 := (hB7.block w4.heap.size (heap_ltU hx6)).trans hx6
      have hO57 := hO56.below hB7
      have hO67 := hO6.below hB7
      have h47 := heap_ltU hx7
      have hbc := hb7.alloc hb7.size (.cells #[.int .i64 (a : Nat), .int .i64 (b : Nat)] 26)
      have hB8 : Below w7.heap.size w7 (w7.alloc (.cells #[.int .i64 (a : Nat), .int .i64 (b : Nat)] 26)) := (Below.refl _ _).alloc (Nat.le_refl _) _
      have hx8 := (heap_alloc_old w7 (.cells #[.int .i64 (a : Nat), .int .i64 (b : Nat)] 26) h47).trans hx7
      have hy8 := heap_alloc_new w7 (.cells #[.int .i64 (a : Nat), .int .i64 (b : Nat)] 26)
      have hO58 := hO57.below hB8
      have hO68 := hO67.below hB8
      clear hx6 hx7 hO56 hO57 hO6 hO67 hb4 hb5 hb6 hb7 hB5 hB6 hB7 hB8
      have HA9 := hide hA
      go_upto_region 11 with fail
      obtain ⟨w8, hw8⟩ : ∃ w8, w7.alloc (.cells #[.int .i64 (a : Nat), .int .i64 (b : Nat)] 26) = w8 := ⟨_, rfl⟩
      rw [hw8] at hx8 hy8 hO58 hO68 hbc ⊢
      clear hw8
      have c0 : w8.cell? ⟨w4.heap.size, 0, none⟩ = some (.int .i64 (a : Nat)) := by rw [cell_of_row _ _ 0 _ _ _ hx8]; rfl
      have c1 : w8.cell? ⟨w4.heap.size, 1, none⟩ = some (.int .i64 (b : Nat)) := by rw [cell_of_row _ _ 1 _ _ _ hx8]; rfl
      have c2 : w8.cell? ⟨w7.heap.size, 0, none⟩ = some (.int .i64 (a : Nat)) := by rw [cell_of_row _ _ 0 _ _ _ hy8]; rfl
      have c3 : w8.cell? ⟨w7.heap.size, 1, none⟩ = some (.int .i64 (b : Nat)) := by rw [cell_of_row _ _ 1 _ _ _ hy8]; rfl
      go_wp2_with fail
      refine (eqFrac_same _ _ _).mono ?_
      rintro e w9 ⟨rfl, hB9⟩
      have hb9 := next hbc hB9
      have hO59 := hO58.below hB9
      have hO69 := hO68.below hB9
      clear c0 c1 c2 c3 hx8 hy8 hO58 hO68
      go_wp2_with fail
      refine (toItemS_any _ _ _ _ (HA9.out.below hb9) hl1 HP1.out).mono ?_
      rintro e w10 ⟨rfl, hO10, hB10⟩
      go_wp2_with fail
      refine (eqItemS_same _ _ _ _ _ _ (hO59.below hB10).at_ hO10.at_ hl1 HP1.out).mono ?_
      rintro e w11 ⟨rfl, hB11⟩
      have hb11 := next (next hb9 hB10) hB11
      have hO611 := (hO69.below hB10).below hB11
      clear hO59 hO69 hO10 hB10 hB11
      go_wp2_with fail
      refine (toIntS_any _ _ _ _ (hX.below hb11) hx1).mono ?_
      rintro e w12 ⟨rfl, hO12, hB12⟩
      go_wp2_with fail
      refine (eqIntS_same _ _ _ _ _ _ (hO611.below hB12).at_ hO12.at_ hx1).mono ?_
      rintro e w13 ⟨rfl, hB13⟩
      have hb13 := next (next hb11 hB12) hB13
      go_wp2_with fail
      go_ret
      exact ⟨rfl, hb13⟩
  · go_enter Try.func3, Try.ntmps3
    go_wp2_with fail
    go_ret
    exact ⟨rfl, by go_grown⟩

theorem exactUnitCost_contract (H : Type) (enc : TypeId × Value → H) (W : World) (base : Nat) (args : Array Value) (ds gs : List (DataW H)) (before : List MemPlace)
    (hval : ∀ (j : Nat) t v, Try.f3.params[j]? = some t → args[j]? = some v → Value.okWide Try.prog W .any base t v)
    (hW : DataW.Whole enc Try.prog Try.f3.params.toList Rows.fnExactUnitCostSpec.vars false W args.toList ds gs before) :
    Calls Try.prog 3 args W fun e W' => ∃ v, e = .returned v ∧ Rows.fnExactUnitCostSpec.post enc Try.prog Try.f3 false true false false W args v W' := by
  have hW' := hW
  obtain ⟨p, q, hA, hV, rfl, _, _⟩ := hW
  obtain ⟨rfl, rfl⟩ := trodVars_none hV
  rw [Try.params3] at hA
  obtain ⟨v0, vs0, d0, ds0, p0, q0, hargs, rfl, rfl, h0, r0⟩ := trodAll_cons hA
  obtain ⟨v1, vs1, d1, ds1, p1, q1, rfl, rfl, rfl, h1, r1⟩ := trodAll_cons r0
  obtain ⟨v2, vs2, d2, ds2, p2, q2, rfl, rfl, rfl, h2, r2⟩ := trodAll_cons r1
  obtain ⟨rfl, rfl, rfl⟩ := trodAll_nil r2
  obtain rfl : args = #[v0, v1, v2] := by cases args; simp_all
  obtain ⟨a0, len0, cap0, rfl⟩ := okWide_slice Try.underlying22 (hval 0 22 v0 rfl rfl)
  obtain ⟨fuel0, hf0⟩ := h0
  obtain ⟨A0, c0, l0, hcs0, hI0, hl0, hp0⟩ := open_items hf0
  simp [Value.cells] at hcs0
  obtain ⟨rfl, rfl, rfl⟩ := hcs0
  obtain ⟨a1, len1, cap1, rfl⟩ := okWide_slice Try.underlying23 (hval 1 23 v1 rfl rfl)
  obtain ⟨fuel1, hf1⟩ := h1
  obtain ⟨A1, c1, l1, hcs1, hI1, hl1⟩ := open_numbers hf1
  simp [Value.cells] at hcs1
  obtain ⟨rfl, rfl, rfl⟩ := hcs1
  obtain ⟨n2, rfl, -, -, -⟩ := open_int Try.underlying3 (hval 2 3 v2 rfl rfl) h2
  refine (exactUnitCost_any _ _ _ _ _ _ _ W hI0 hl0 hp0 hI1 hl1).mono fun e W' ⟨he, hb⟩ => ?_
  subst he
  have hts : ∀ t ∈ Try.f3.params.toList, Try.prog.readableRec t = true ∧ t < Try.prog.types.size := by
    rw [Try.params3]
    intro t ht
    simp only [List.mem_cons, List.not_mem_nil, or_false] at ht
    rcases ht with rfl | rfl | rfl <;> exact ⟨by kernel_rfl, of_decide_eq_true (by kernel_rfl)⟩
  exact ⟨_, rfl, post_true hW' rfl rfl Try.underlying4 hts rfl rfl rfl hb⟩

set_option maxRecDepth 100000 in
theorem exactUnitCost_holds : Rows.FnExactUnitCostSaid :=
  OpenClaim.holds_of_wide 3 Try.f3 rfl rfl rfl rfl rfl rfl rfl ⟨rfl, rfl, rfl, rfl, rfl⟩ rfl rfl rfl rfl rfl (by kernel_rfl) Try.func3 (by kernel_rfl)
    (of_decide_eq_true (by kernel_rfl)) (by unfold Func.isWrapper; first | (rw [if_pos (by decide +kernel)]; kernel_rfl) | (rw [if_neg (by decide +kernel)]; exact ⟨rfl, rfl⟩))
    (fun os started H enc _ => returnsInHanded_of_change (C := Try.checked) own started (by kernel_rfl) Try.func3
      (ChangeSpec.witness6 (enc := enc) (C := Try.checked) false ⟨#[], #[.slice none 0 0, .slice none 0 0, .int .i64 0], []⟩ 8 (by kernel_rfl) (by kernel_rfl) (by kernel_rfl) (by kernel_rfl))
      (fun W base args ds gs before hval hW _ _ => exactUnitCost_contract H enc W base args ds gs before hval hW))
end Go.Proofs.Ytjegebnnlomcpaa
