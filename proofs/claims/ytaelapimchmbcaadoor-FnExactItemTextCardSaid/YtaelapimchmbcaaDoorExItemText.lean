/- For every item the exact law of ItemText answers true, and its argument reads as it did.
   Conditions: none. -/
import Derived.Test.YtaelapimchmbcaaDoorTextS
import Derived.Lib.SmallJoins
import Derived.Test.YtaelapimchmbcaaDoorLawStart
import Derived.Test.YtaelapimchmbcaaDoorLawMain
namespace Go.Proofs.YtaelapimchmbcaaDoor
open Go.RowKit Go.ChangeShapes Go.WideShapes Go.ChangeAt Go.Deep

theorem szP_leT {n : Nat} (h : ¬ szP 1048576 n < 0) : n ≤ 1048576 := by unfold szP at h; split at h <;> omega
theorem cells3 {W : World} {X : Nat} {t : TypeId} {a b c : Value} (h : W.heap[X]? = some (.cells #[a, b, c] t (0, 0))) :
    W.cell? ⟨X, 0, none⟩ = some a ∧ W.cell? ⟨X, 1, none⟩ = some b ∧ W.cell? ⟨X, 2, none⟩ = some c :=
  ⟨by rw [cell_of_row _ _ 0 _ _ _ h]; rfl, by rw [cell_of_row _ _ 1 _ _ _ h]; rfl, by rw [cell_of_row _ _ 2 _ _ _ h]; rfl⟩

set_option maxRecDepth 100000 in
set_option maxHeartbeats 8000000 in
theorem exactItemText_any (A : Option Addr) (c : Nat) (y m : Int) (ps : List Part) (w : World) (hA : PartsAt w A ps) (hl : ps.length ≤ 9223372036854775807) :
    Calls Tryd.prog 5 #[.agg #[.int .i64 y, .slice A ps.length c, .int .i64 m]] w fun e w' => e = .returned (.bool true) ∧ Below w.heap.size w w' := by
  have HA := hide hA
  clear hA
  have hba : Below w.heap.size w (w.alloc (.cells #[.int .i64 y, .slice A ps.length c, .int .i64 m] 36)) := by go_grown
  have hbx := heap_alloc_new w (.cells #[.int .i64 y, .slice A ps.length c, .int .i64 m] 36)
  obtain ⟨W, hW⟩ : ∃ W, w.alloc (.cells #[.int .i64 y, .slice A ps.length c, .int .i64 m] 36) = W := ⟨_, rfl⟩
  have HW := hide hW
  rw [hW] at hba hbx
  clear hW
  by_cases hz : szP 1048576 ps.length < 0
  · go_enter Tryd.func5, Tryd.ntmps5
    go_upto_region 2 with fail
    rw [HW.out]
    obtain ⟨c0, c1, c2⟩ := cells3 hbx
    go_wp2_with fail
    refine (szItem_any _ _ _ _ _ _ _ (by omega) (by omega) hl).mono ?_
    rintro e w1 ⟨rfl, hB1⟩
    have hb1 := next hba hB1
    go_wp2_with fail
    go_ret
    exact ⟨rfl, hb1⟩
  · have hl1 := szP_leT hz
    obtain ⟨s, HV⟩ : ∃ s, Hid (itemTextL ⟨y, ps, m⟩ = s) := ⟨_, hide rfl⟩
    go_enter Tryd.func5, Tryd.ntmps5
    go_upto_region 2 with fail
    rw [HW.out]
    obtain ⟨c0, c1, c2⟩ := cells3 hbx
    go_wp2_with fail
    refine (szItem_any _ _ _ _ _ _ _ (by omega) (by omega) hl).mono ?_
    rintro e w1 ⟨rfl, hB1⟩
    have hb1 := next hba hB1
    have hx1 := (hB1.block w.heap.size (heap_ltT hbx)).trans hbx
    clear c0 c1 c2 hbx hba hB1
    obtain ⟨c0, c1, c2⟩ := cells3 hx1
    go_wp2_with fail
    refine (toItem_any _ _ _ _ _ _ (HA.out.below hb1) hl1).mono ?_
    rintro e w2 ⟨rfl, hO2, hB2⟩
    have hb2 := next hb1 hB2
    have hx2 := (hB2.block w.heap.size (heap_ltT hx1)).trans hx1
    clear c0 c1 c2 hx1 hB2 hb1
    obtain ⟨c0, c1, c2⟩ := cells3 hx2
    go_wp2_with fail
    refine (specItemText_any _ _ ⟨y, ps, m⟩ _ hO2.at_ hl1).mono ?_
    rintro e w3 ⟨rfl, hB3⟩
    rw [HV.out]
    have hb3 := next hb2 hB3
    have hx3 := (hB3.block w.heap.size (heap_ltT hx2)).trans hx2
    clear c0 c1 c2 hx2 hB3 hb2 hO2
    obtain ⟨c0, c1, c2⟩ := cells3 hx3
    go_wp2_with fail
    refine (toItem_any _ _ _ _ _ _ (HA.out.below hb3) hl1).mono ?_
    rintro e w4 ⟨rfl, hO4, hB4⟩
    have hb4 := next hb3 hB4
    have hx4 := (hB4.block w.heap.size (heap_ltT hx3)).trans hx3
    obtain ⟨g, hg⟩ : ∃ g, w3.heap.size + 3 = g := ⟨_, rfl⟩
    rw [hg] at hO4 ⊢
    clear c0 c1 c2 hx3 hB4 hb3 hg
    have hb5 := hb4.alloc hb4.size (.cells #[.int .i64 y, .slice (some ⟨g, 0, none⟩) ps.length ps.length, .int .i64 m] 25)
    have hx5 := (heap_alloc_old w4 (.cells #[.int .i64 y, .slice (some ⟨g, 0, none⟩) ps.length ps.length, .int .i64 m] 25) (heap_ltT hx4)).trans hx4
    have hy5 := heap_alloc_new w4 (.cells #[.int .i64 y, .slice (some ⟨g, 0, none⟩) ps.length ps.length, .int .i64 m] 25)
    have hO5 := hO4.below (w' := w4.alloc (.cells #[.int .i64 y, .slice (some ⟨g, 0, none⟩) ps.length ps.length, .int .i64 m] 25)) ((Below.refl _ _).alloc (Nat.le_refl _) _)
    clear hx4 hb4 hO4
    go_upto_region 7 with fail
    obtain ⟨w5, hw5⟩ : ∃ w5, w4.alloc (.cells #[.int .i64 y, .slice (some ⟨g, 0, none⟩) ps.length ps.length, .int .i64 m] 25) = w5 := ⟨_, rfl⟩
    rw [hw5] at hb5 hx5 hy5 hO5 ⊢
    clear hw5
    obtain ⟨c0, c1, c2⟩ := cells3 hy5
    go_wp2_with fail
    refine (implItemText_any _ _ ⟨y, ps, m⟩ _ hO5.at_ hl1).mono ?_
    rintro e w6 ⟨rfl, hB6⟩
    rw [HV.out]
    have hb6 := next hb5 hB6
    have hx6 := (hB6.block w.heap.size (heap_ltT hx5)).trans hx5
    have hy6 := (hB6.block w4.heap.size (heap_ltT hy5)).trans hy5
    have hO6 := hide (hO5.below hB6)
    clear c0 c1 c2 hx5 hy5 hO5 hB6 hb5
    have HC : Hid (∀ W, Below w6.heap.size w6 W → (W.cell? ⟨w.heap.size, 0, none⟩ = some (.int .i64 y) ∧ W.cell? ⟨w.heap.size, 1, none⟩ = some (.slice A ps.length c) ∧ W.cell? ⟨w.heap.size, 2, none⟩ = some (.int .i64 m)) ∧
        (W.cell? ⟨w4.heap.size, 0, none⟩ = some (.int .i64 y) ∧ W.cell? ⟨w4.heap.size, 1, none⟩ = some (.slice (some ⟨g, 0, none⟩) ps.length ps.length) ∧ W.cell? ⟨w4.heap.size, 2, none⟩ = some (.int .i64 m))) := hide (fun W hW => ⟨cells3 ((hW.block w.heap.size (heap_ltT hx6)).trans hx6), cells3 ((hW.block w4.heap.size (heap_ltT hy6)).trans hy6)⟩)
    have HTO := hide (toItem_any A c y m ps w6.drew (HA.out.below hb6.drew) hl1)
    clear hx6 hy6
    go_wp2_with fail
    go_region_held3 (fun W => (W.cell? ⟨w.heap.size, 0, none⟩ = some (.int .i64 y) ∧ W.cell? ⟨w.heap.size, 1, none⟩ = some (.slice A ps.length c) ∧ W.cell? ⟨w.heap.size, 2, none⟩ = some (.int .i64 m)) ∧
        (W.cell? ⟨w4.heap.size, 0, none⟩ = some (.int .i64 y) ∧ W.cell? ⟨w4.heap.size, 1, none⟩ = some (.slice (some ⟨g, 0, none⟩) ps.length ps.length) ∧ W.cell? ⟨w4.heap.size, 2, none⟩ = some (.int .i64 m)))
      (first | exact HC.out _ (Below.refl _ _).drew | exact HC.out _ ((Below.refl _ _).drew.trans (hB7.mono (by simp))) | exact HC.out _ (((Below.refl _ _).drew.trans (hB7.mono (by simp))).trans (hB8.mono (by have := hB7.size; simpa using this))))
      (first
        | (go_at_call 16; refine HTO.out.mono ?_; rintro e W7 ⟨rfl, hO7, hB7⟩)
        | (go_at_call 17; refine (eqItem_same _ _ _ _ y m ps _ (hO6.out.below ((Below.refl _ _).drew.trans (hB7.mono (by simp)))).at_ hO7.at_ hl1).mono ?_; rintro e W8 ⟨rfl, hB8⟩))
    all_goals
      have hb8 := next (next hb6.drew hB7) hB8
      go_wp2_with fail
      go_ret
      exact ⟨rfl, hb8⟩

noncomputable abbrev startItemText (os : Os) : World := (World.laidAll Tryd.prog os laid3).forCall (fun _ _ => 0) ⟨#[], #[.agg #[.int .i64 0, .slice none 0 0, .int .i64 0]], []⟩
set_option maxRecDepth 100000 in
theorem startItemText_shaped (os : Os) : (startItemText os).Shaped Tryd.prog := World.shaped_of_ZipB (by kernel_rfl) (by kernel_rfl)
set_option maxRecDepth 100000 in
theorem startItemText_met (os : Os) : laidMet Tryd.prog laid3 (startItemText os).memory := laidMet_laidAll _ (by kernel_rfl) (by kernel_rfl)

set_option maxRecDepth 100000 in
theorem exactItemText_contract (H : Type) (enc : TypeId × Value → H) (W : World) (base : Nat) (args : Array Value) (ds gs : List (DataW H)) (before : List MemPlace)
    (hval : ∀ (j : Nat) t v, Tryd.f5.params[j]? = some t → args[j]? = some v → Value.okWide Tryd.prog W .any base t v)
    (hW : DataW.Whole enc Tryd.prog Tryd.f5.params.toList Rows.fnExactItemTextSpec.vars false W args.toList ds gs before) :
    Calls Tryd.prog 5 args W fun e W' => ∃ v, e = .returned v ∧ Rows.fnExactItemTextSpec.post enc Tryd.prog Tryd.f5 false true false false W args v W' := by
  have hW' := hW
  obtain ⟨p, q, hA, hV, rfl, _, _⟩ := hW'
  obtain ⟨rfl, rfl⟩ := trodVars_none hV
  rw [Tryd.params5] at hA
  obtain ⟨v0, vs0, d0, ds0, p0, q0, hargs, rfl, rfl, h0, r0⟩ := trodAll_cons hA
  obtain ⟨rfl, rfl, rfl⟩ := trodAll_nil r0
  obtain rfl : args = #[v0] := by cases args; simp_all
  obtain ⟨u0, u1, u2, y0, y1, y2, n, rfl, -, -, t0, t1, t2⟩ := Go.Joins.open_agg3 Tryd.underlying36 (by kernel_rfl) (by kernel_rfl) (hval 0 36 v0 (by rw [Tryd.params5]; rfl) rfl) h0
  obtain ⟨y, e0, _⟩ := DataW.trod_int Tryd.underlying3 t0
  obtain ⟨A0, c0, ps, e1, hI0, hl0⟩ := open_parts t1
  obtain ⟨m, e2, _⟩ := DataW.trod_int Tryd.underlying3 t2
  simp only [List.cons.injEq, and_true] at e0 e1 e2
  subst e0 e1 e2
  refine (exactItemText_any _ _ _ _ _ W hI0 hl0).mono fun e W' ⟨he, hb⟩ => ?_
  subst he
  have hts : ∀ t ∈ Tryd.f5.params.toList, Tryd.prog.readableRec t = true ∧ t < Tryd.prog.types.size := by
    rw [Tryd.params5]
    intro t ht
    simp only [List.mem_cons, List.not_mem_nil, or_false] at ht
    rcases ht with rfl
    exact ⟨by kernel_rfl, of_decide_eq_true (by kernel_rfl)⟩
  exact ⟨_, rfl, post_true hW rfl rfl Tryd.underlying4 hts rfl rfl rfl hb⟩

set_option maxRecDepth 100000 in
theorem exactItemText_closed : joinedFacts Tryd.prog 5 Tryd.f5 Rows.fnExactItemTextSpec Rows.fnExactItemTextRow = true := by
  unfold joinedFacts
  rw [enters_is, lifts_is, make_is]
  kernel_rfl

set_option maxRecDepth 100000 in
theorem exactItemText_holds : Rows.FnExactItemTextSaid :=
  OpenClaim.holds_of_wide 5 Tryd.f5 rfl rfl rfl rfl rfl rfl rfl ⟨rfl, rfl, rfl, rfl, rfl⟩ rfl rfl rfl rfl rfl (by kernel_rfl) Tryd.func5 exactItemText_closed
    (of_decide_eq_true (by kernel_rfl)) (by unfold Func.isWrapper; first | (rw [if_pos (by decide +kernel)]; kernel_rfl) | (rw [if_neg (by decide +kernel)]; exact ⟨rfl, rfl⟩))
    (fun os started H enc _ => returnsInHanded_of_change_and (C := Tryd.checked) (X := fun w _ => laidMet Tryd.prog laid3 w) (fun _ _ _ hh h => h.of_heap hh) own started (by kernel_rfl) Tryd.func5
      (ChangeSpec.witness_shaped (enc := enc) (C := Tryd.checked) (os := os) (X := fun w _ => laidMet Tryd.prog laid3 w) false (World.laidAll Tryd.prog os laid3) #[.agg #[.int .i64 0, .slice none 0 0, .int .i64 0]] 8 (World.laidAll_os _ _ _) (startItemText_shaped os) (by kernel_rfl) (by kernel_rfl) (by kernel_rfl) (startItemText_met os))
      (fun W base args ds gs before hval hW _ _ _ _ => exactItemText_contract H enc W base args ds gs before hval hW))

set_option maxRecDepth 100000 in
theorem exactItemText_card : Rows.FnExactItemTextCardSaid :=
  Claim7.holds_tied_plain_at .later [] [.data, .data, .data] true (true, "42ed73576d0d23b1fe78a90f9f0287912c31cf7ada755f8b512e18aefeda310c") true
    exactItemText_holds (fun _ h => by cases h) (by kernel_rfl) (fun _ h => by cases h) fnExactItemText_row_tie rfl ⟨rfl, rfl⟩ main_is rfl
    (fun f fn hf hfn => by
      obtain rfl : f = 5 := Option.some.inj ((show Tryd.prog.funcNamed "loop.example/restaurantkitchen/laws.FnExactItemText" = some 5 by kernel_rfl).symm.trans hf) |>.symm
      obtain rfl : fn = Tryd.f5 := (Option.some.inj (Tryd.func5.symm.trans hfn)).symm
      exact ⟨by kernel_rfl, fun j t ht => by
        rw [Tryd.params5] at ht
        have h3 : t = 36 := by
          rcases j with _ | j
          · simpa using ht.symm
          · simp at ht
        subst h3
        exact (show Tryd.prog.wantsStandIn 36 = false by kernel_rfl)⟩)
    (by kernel_rfl)
end Go.Proofs.YtaelapimchmbcaaDoor
