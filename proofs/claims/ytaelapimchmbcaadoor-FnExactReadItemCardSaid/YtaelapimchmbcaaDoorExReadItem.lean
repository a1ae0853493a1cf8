/- For every text the exact law of ReadItem answers true.
   Conditions: the listed variables of the library. -/
import Derived.Test.YtaelapimchmbcaaDoorReadSp
import Derived.Test.YtaelapimchmbcaaDoorMarkPart
import Derived.Test.YtaelapimchmbcaaDoorLibStart
import Derived.Test.YtaelapimchmbcaaDoorLawStart
import Derived.Test.YtaelapimchmbcaaDoorLawMain
namespace Go.Proofs.YtaelapimchmbcaaDoor
open Go.RowKit Go.ChangeShapes Go.WideShapes Go.ChangeAt Go.Deep

theorem readRes_len {s : List UInt8} (hs : s.length ≤ 1048576) : (readRes s).1.parts.length ≤ 1048576 := by
  by_cases h : s ≠ [] ∧ itemTextL (itemI s) = s
  · rw [readRes_yes h]
    show (partsI2 (Lib.cut (Lib.cut s [61]).2.1 [33]).1).length ≤ _
    have a := cut_less s 61
    have b := (cut_len (Lib.cut s [61]).2.1 33).1
    have c := (splitC_len 44 _ (Lib.cut (Lib.cut s [61]).2.1 [33]).1 (Nat.le_refl _)).1
    have d : 0 < s.length := List.length_pos_iff.2 h.1
    unfold partsI2
    split
    · simp
    · rw [List.length_map]
      omega
  · rw [readRes_no h]
    simp
theorem cells3R {W : World} {X : Nat} {t : TypeId} {a b c : Value} (h : W.heap[X]? = some (.cells #[a, b, c] t (0, 0))) :
    W.cell? ⟨X, 0, none⟩ = some a ∧ W.cell? ⟨X, 1, none⟩ = some b ∧ W.cell? ⟨X, 2, none⟩ = some c :=
  ⟨by rw [cell_of_row _ _ 0 _ _ _ h]; rfl, by rw [cell_of_row _ _ 1 _ _ _ h]; rfl, by rw [cell_of_row _ _ 2 _ _ _ h]; rfl⟩
theorem heap_ltR {W : World} {X : Nat} {o : Obj} (h : W.heap[X]? = some o) : X < W.heap.size := by
  rcases Nat.lt_or_ge X W.heap.size with h1 | h1
  · exact h1
  · rw [Array.getElem?_eq_none h1] at h
    cases h
theorem PartSl.belowOwn {w w' : World} {lo n : Nat} {v : Value} {ps qs : List Part} (h : PartSl w lo v ps) (h' : PartSl w' n v qs) {k : Nat} (hk : v.ownBlock = some k) : lo ≤ k ∧ n ≤ k := ⟨(World.ownsRow.lt h k hk).1, (World.ownsRow.lt h' k hk).1⟩

set_option maxRecDepth 100000 in
set_option maxHeartbeats 8000000 in
theorem exactReadItem_any (s : List UInt8) (w : World) (hL : LibAt w) :
    Calls Tryd.prog 6 #[.string ⟨s.toArray⟩] w fun e w' => e = .returned (.bool true) ∧ Below w.heap.size w w' := by
  by_cases hs : s.length ≤ 1048576
  · have hs1 : ¬ (1048576 < (s.length : Int)) := by omega
    have hsg : decide ((s.length : Int) > 1048576) = false := by simp; omega
    have HLp := hide (readRes_len hs)
    have HSp := hide (specReadItem_any s w hs)
    have HIm := hide (fun V (hV : LibAt V) => implReadItem_any s V hs hV)
    unfold ReadPost at HSp HIm
    obtain ⟨rr, hrr⟩ : ∃ rr, readRes s = rr := ⟨_, rfl⟩
    rw [hrr] at HLp HSp HIm
    clear hrr
    obtain ⟨⟨y, ps, m⟩, b⟩ := rr
    have hl : ps.length ≤ 1048576 := HLp.out
    have hbn : (b != b) = false := by simp
    have hr : ¬ (1 + 2 * (ps.length : Int) < 0) := by omega
    have hne : (1 + 2 * (ps.length : Int) != 1 + 2 * (ps.length : Int)) = false := by simp
    clear HLp
    go_enter Tryd.func6, Tryd.ntmps6
    go_wp2_with fail
    refine HSp.out.mono ?_
    rintro e w1 ⟨v0, rfl, hS0, hB1⟩
    clear HSp
    obtain ⟨A0, c0, rfl, -⟩ := hS0.form
    have hb1 := hB1.alloc hB1.size (.cells #[.int .i64 y, .slice A0 ps.length c0, .int .i64 m] 25)
    have hx1 := heap_alloc_new w1 (.cells #[.int .i64 y, .slice A0 ps.length c0, .int .i64 m] 25)
    have hP1 : PartSl (w1.alloc (.cells #[.int .i64 y, .slice A0 ps.length c0, .int .i64 m] 25)) w.heap.size (.slice A0 ps.length c0) ps := hS0.belowP ((Below.refl _ _).alloc (Nat.le_refl _) _)
    have HZ := hide (And.intro hb1 (And.intro hx1 hP1))
    clear hb1 hx1 hP1 hS0
    go_upto_region 4 with fail
    obtain ⟨hb1, hx1, hP1⟩ := HZ.out
    obtain ⟨W1, hW1⟩ : ∃ W, w1.alloc (.cells #[.int .i64 y, .slice A0 ps.length c0, .int .i64 m] 25) = W := ⟨_, rfl⟩
    clear HZ
    rw [hW1] at hb1 hx1 hP1 ⊢
    obtain ⟨x1, hX1⟩ : ∃ x, w1.heap.size = x := ⟨_, rfl⟩
    rw [hX1] at hx1 ⊢
    have hge1 : w.heap.size ≤ x1 := by rw [← hX1]; exact hB1.size
    clear hW1 hX1 hB1
    have HB1 := hide hb1
    have HX1 := hide hx1
    have HP1 := hide hP1
    clear hb1 hx1 hP1
    go_wp2_with fail
    refine (HIm.out W1 (hL.below HB1.out)).mono ?_
    rintro e w2 ⟨v1, rfl, hS1, hB2⟩
    obtain ⟨A1, c1, rfl, -⟩ := hS1.form
    have hb2 := next HB1.out hB2
    have hx2 := (hB2.block x1 (heap_ltR HX1.out)).trans HX1.out
    have hP2 := HP1.out.belowP hB2
    have hdf : ∀ k, (Value.slice A1 ps.length c1).ownBlock = some k → (Value.slice A0 ps.length c0).ownBlock ≠ some k ∧ k ≠ x1 ∧ w.heap.size ≤ k := fun k hk => by
      have a := (World.ownsRow.lt hS1 k hk).1
      refine ⟨fun e => ?_, ?_, ?_⟩
      · have := (World.ownsRow.lt HP1.out k e).2
        omega
      · have := heap_ltR HX1.out
        omega
      · have := HB1.out.size
        omega
    have hb3 := hb2.alloc hb2.size (.cells #[.int .i64 y, .slice A1 ps.length c1, .int .i64 m] 25)
    have hx3 := heap_alloc_new w2 (.cells #[.int .i64 y, .slice A1 ps.length c1, .int .i64 m] 25)
    have hx3' := (heap_alloc_old w2 (.cells #[.int .i64 y, .slice A1 ps.length c1, .int .i64 m] 25) (heap_ltR hx2)).trans hx2
    have hP3 : PartSl (w2.alloc (.cells #[.int .i64 y, .slice A1 ps.length c1, .int .i64 m] 25)) w.heap.size (.slice A0 ps.length c0) ps := hP2.belowP ((Below.refl _ _).alloc (Nat.le_refl _) _)
    have hQ3 : PartSl (w2.alloc (.cells #[.int .i64 y, .slice A1 ps.length c1, .int .i64 m] 25)) W1.heap.size (.slice A1 ps.length c1) ps := hS1.belowP ((Below.refl _ _).alloc (Nat.le_refl _) _)
    have hdg : ∀ k, (Value.slice A1 ps.length c1).ownBlock = some k → k ≠ w2.heap.size := fun k hk => by
      have a := (World.ownsRow.lt hS1 k hk).2
      omega
    have hlo1 := Nat.le_trans hB2.size (Nat.le_refl w2.heap.size)
    have HZ := hide (And.intro hb3 (And.intro hx3 (And.intro hx3' (And.intro hP3 (And.intro hQ3 (And.intro hdf (And.intro hdg hlo1)))))))
    clear hb3 hx3 hx3' hP3 hQ3 hdf hdg hS1 hb2 hx2 hP2 hB2 HB1 HX1 HP1 hlo1
    go_upto_region 5 with fail
    obtain ⟨hb3, hx3, hx3', hP3, hQ3, hdf, hdg, hlo1⟩ := HZ.out
    obtain ⟨W3, hW3⟩ : ∃ W, w2.alloc (.cells #[.int .i64 y, .slice A1 ps.length c1, .int .i64 m] 25) = W := ⟨_, rfl⟩
    clear HZ
    have hge3 : w2.heap.size ≤ W3.heap.size := by rw [← hW3]; simp
    rw [hW3] at hb3 hx3 hx3' hP3 hQ3 ⊢
    obtain ⟨x3, hX3⟩ : ∃ x, w2.heap.size = x := ⟨_, rfl⟩
    rw [hX3] at hx3 hge3 hdg hlo1 ⊢
    have HB3 := hide hb3
    have HX0 := hide hx3'
    have HX3 := hide hx3
    have HP3 := hide hP3
    have HQ3 := hide hQ3
    have HDF := hide hdf
    have HDG := hide hdg
    clear hW3 hX3 hb3 hx3 hx3' hP3 hQ3 hdf hdg
    obtain ⟨a0, a1, a2⟩ := cells3R HX0.out
    obtain ⟨b0, b1, b2⟩ := cells3R HX3.out
    have HE := hide (fun V (h1 : PartsAt V A1 ps) (h2 : PartsAt V A0 ps) => eqItem_same A1 A0 c1 c0 y m ps V h1 h2 hl)
    go_wp2_with fail
    refine (HE.out _ HQ3.out.parts HP3.out.parts).mono ?_
    rintro e w4 ⟨rfl, hB4⟩
    have hb4 := next HB3.out hB4
    have hx40 := (hB4.block x1 (heap_ltR HX0.out)).trans HX0.out
    have hx43 := (hB4.block x3 (heap_ltR HX3.out)).trans HX3.out
    have HP4 := hide (HP3.out.belowP hB4)
    have HQ4 := hide (HQ3.out.belowP hB4)
    have hz4 := hB4.size
    clear hB4 HB3 HX0 HX3 HP3 HQ3 a0 a1 a2 b0 b1 b2
    obtain ⟨b0, b1, b2⟩ := cells3R hx43
    have HMk := hide (markItem_any W1.heap.size A1 c1 ps y m w4 HQ4.out hl)
    go_wp2_with fail
    refine HMk.out.mono ?_
    rintro e w5 ⟨rfl, hQ5, hg5⟩
    have hb5 : Below w.heap.size w w5 := hb4.grown hg5 hb4.size (fun k hk => (HDF.out k hk).2.2)
    have hP5 := HP4.out.rowP hg5 (by
      cases e0 : (Value.slice A0 ps.length c0).ownBlock with
      | none => exact .inl rfl
      | some j => exact .inr (fun e => (HDF.out j e.symm).1 e0))
    have hx50 := (hg5.block x1 (heap_ltR hx40) (fun e => (HDF.out x1 e.symm).2.1 rfl)).trans hx40
    have hx53 := (hg5.block x3 (heap_ltR hx43) (fun e => HDG.out x3 e.symm rfl)).trans hx43
    have hz5 := hg5.size
    have HQ5 := hide hQ5
    have HP5 := hide hP5
    have HX5 := hide hx50
    clear hQ5 hP5 hg5 HMk HP4 HQ4 hx40 hx43 hb4 b0 b1 b2 hx50 HDF HDG
    obtain ⟨b0, b1, b2⟩ := cells3R hx53
    have HHd := hide (fun V (h : PartsAt V A1 (seqParts 1 ps.length)) => heldItem_any A1 c1 ps.length y m V h hl)
    have hq5 : PartSl w5 W1.heap.size (.slice A1 (seqParts 1 ps.length).length c1) (seqParts 1 ps.length) := by rw [seqParts_len]; exact HQ5.out
    go_wp2_with fail
    refine (HHd.out _ hq5.parts).mono ?_
    rintro e w6 ⟨rfl, hB6⟩
    have hb6 := next hb5 hB6
    have HX6 := hide ((hB6.block x1 (heap_ltR HX5.out)).trans HX5.out)
    have HY6 := hide ((hB6.block x3 (heap_ltR hx53)).trans hx53)
    have HP6 := hide (HP5.out.belowP hB6)
    have HQ6 := hide (hq5.belowP hB6)
    have hz6 := hB6.size
    clear hB6 hb5 HX5 hx53 HP5 HQ5 hq5 b0 b1 b2
    go_wp2_with fail
    refine (HIm.out w6 (hL.below hb6)).mono ?_
    rintro e w7 ⟨v2, rfl, hS2, hB7⟩
    obtain ⟨A2, c2, rfl, -⟩ := hS2.form
    have hb7 := next hb6 hB7
    have hx70 := (hB7.block x1 (heap_ltR HX6.out)).trans HX6.out
    have hx73 := (hB7.block x3 (heap_ltR HY6.out)).trans HY6.out
    have hP7 := HP6.out.belowP hB7
    have hQ7 := HQ6.out.belowP hB7
    have hb8 := hb7.alloc hb7.size (.cells #[.int .i64 y, .slice A2 ps.length c2, .int .i64 m] 25)
    have hx8 := heap_alloc_new w7 (.cells #[.int .i64 y, .slice A2 ps.length c2, .int .i64 m] 25)
    have hx80 := (heap_alloc_old w7 (.cells #[.int .i64 y, .slice A2 ps.length c2, .int .i64 m] 25) (heap_ltR hx70)).trans hx70
    have hx83 := (heap_alloc_old w7 (.cells #[.int .i64 y, .slice A2 ps.length c2, .int .i64 m] 25) (heap_ltR hx73)).trans hx73
    have hal : Below w7.heap.size w7 (w7.alloc (.cells #[.int .i64 y, .slice A2 ps.length c2, .int .i64 m] 25)) := (Below.refl _ _).alloc (Nat.le_refl _) _
    have HZ := hide (And.intro hb8 (And.intro hx8 (And.intro hx80 (And.intro hx83 (And.intro (hP7.belowP hal) (And.intro (hQ7.belowP hal) (hS2.belowP hal)))))))
    clear hb8 hx8 hx80 hx83 hal hP7 hQ7 hS2 hx70 hx73 hb7 HX6 HY6 HP6 HQ6 hb6 hB7
    go_upto_region 16 with fail
    obtain ⟨hb8, hx8, hx80, hx83, hP8, hQ8, hR8⟩ := HZ.out
    obtain ⟨W8, hW8⟩ : ∃ W, w7.alloc (.cells #[.int .i64 y, .slice A2 ps.length c2, .int .i64 m] 25) = W := ⟨_, rfl⟩
    clear HZ
    rw [hW8] at hb8 hx8 hx80 hx83 hP8 hQ8 hR8 ⊢
    obtain ⟨x8, hX8⟩ : ∃ x, w7.heap.size = x := ⟨_, rfl⟩
    rw [hX8] at hx8 ⊢
    clear hW8 hX8
    have HB8 := hide hb8
    have HX8 := hide hx83
    have HP8 := hide hP8
    have HQ8 := hide hQ8
    have HR8 := hide hR8
    clear hb8 hx83 hP8 hQ8 hR8
    obtain ⟨a0, a1, a2⟩ := cells3R hx80
    obtain ⟨b0, b1, b2⟩ := cells3R hx8
    clear hx8 hx80
    have HE := hide (fun V (h1 : PartsAt V A2 ps) (h2 : PartsAt V A0 ps) => eqItem_same A2 A0 c2 c0 y m ps V h1 h2 hl)
    go_wp2_with fail
    refine (HE.out _ HR8.out.parts HP8.out.parts).mono ?_
    rintro e w9 ⟨rfl, hB9⟩
    have hb9 := next HB8.out hB9
    have hx93 := (hB9.block x3 (heap_ltR HX8.out)).trans HX8.out
    have HQ9 := hide (HQ8.out.belowP hB9)
    clear a0 a1 a2 b0 b1 b2 hB9 HB8 HX8 HP8 HQ8 HR8
    obtain ⟨b0, b1, b2⟩ := cells3R hx93
    go_wp2_with fail
    refine (HHd.out _ HQ9.out.parts).mono ?_
    rintro e w10 ⟨rfl, hB10⟩
    have hb10 := next hb9 hB10
    clear b0 b1 b2 hx93 hB10 hb9
    go_wp2_with fail
    go_ret
    exact ⟨rfl, hb10⟩
  · have hs1 : 1048576 < (s.length : Int) := by omega
    have hsg : decide ((s.length : Int) > 1048576) = true := by simp; omega
    go_enter Tryd.func6, Tryd.ntmps6
    go_wp2_with fail
    go_ret
    exact ⟨rfl, Below.refl _ _⟩
noncomputable abbrev startReadItem (os : Os) : World := (World.laidAll Tryd.prog os laid7).forCall (fun _ _ => 0) ⟨#[], #[.string ⟨#[]⟩], []⟩
set_option maxRecDepth 100000 in
theorem startReadItem_shaped (os : Os) : (startReadItem os).Shaped Tryd.prog := World.shaped_of_ZipB (by kernel_rfl) (by kernel_rfl)
set_option maxRecDepth 100000 in
theorem startReadItem_met (os : Os) : laidMet Tryd.prog laid7 (startReadItem os).memory := laidMet_laidAll _ (by kernel_rfl) (by kernel_rfl)

set_option maxRecDepth 100000 in
theorem exactReadItem_contract (H : Type) (enc : TypeId × Value → H) (W : World) (base : Nat) (args : Array Value) (ds gs : List (DataW H)) (before : List MemPlace)
    (hval : ∀ (j : Nat) t v, Tryd.f6.params[j]? = some t → args[j]? = some v → Value.okWide Tryd.prog W .any base t v)
    (hW : DataW.Whole enc Tryd.prog Tryd.f6.params.toList Rows.fnExactReadItemSpec.vars false W args.toList ds gs before) (hL : laidMet Tryd.prog laid7 W) (hsh : W.ShapedOpen Tryd.prog) :
    Calls Tryd.prog 6 args W fun e W' => ∃ v, e = .returned v ∧ Rows.fnExactReadItemSpec.post enc Tryd.prog Tryd.f6 false true false false W args v W' := by
  have hW' := hW
  obtain ⟨p, q, hA, hV, rfl, _, _⟩ := hW'
  obtain ⟨rfl, rfl⟩ := trodVars_none hV
  rw [Tryd.params6] at hA
  obtain ⟨v0, vs0, d0, ds0, p0, q0, hargs, rfl, rfl, h0, r0⟩ := trodAll_cons hA
  obtain ⟨rfl, rfl, rfl⟩ := trodAll_nil r0
  obtain rfl : args = #[v0] := by cases args; simp_all
  obtain ⟨S, rfl⟩ := okWide_string Tryd.underlying9 (hval 0 9 v0 (by rw [Tryd.params6]; rfl) rfl)
  obtain ⟨⟨l⟩⟩ := S
  refine (exactReadItem_any l W (libAt_of hL hsh)).mono fun e W' ⟨he, hb⟩ => ?_
  subst he
  have hts : ∀ t ∈ Tryd.f6.params.toList, Tryd.prog.readableRec t = true ∧ t < Tryd.prog.types.size := by
    rw [Tryd.params6]
    intro t ht
    simp only [List.mem_cons, List.not_mem_nil, or_false] at ht
    rcases ht with rfl
    exact ⟨by kernel_rfl, of_decide_eq_true (by kernel_rfl)⟩
  exact ⟨_, rfl, post_true hW rfl rfl Tryd.underlying4 hts rfl rfl rfl hb⟩

set_option maxRecDepth 100000 in
theorem exactReadItem_closed : joinedFacts Tryd.prog 6 Tryd.f6 Rows.fnExactReadItemSpec Rows.fnExactReadItemRow = true := by
  unfold joinedFacts
  rw [enters_is, lifts_is, make_is]
  kernel_rfl

set_option maxRecDepth 100000 in
theorem exactReadItem_holds : Rows.FnExactReadItemSaid :=
  OpenClaim.holds_of_wide 6 Tryd.f6 rfl rfl rfl rfl rfl rfl rfl ⟨rfl, rfl, rfl, rfl, rfl⟩ rfl rfl rfl rfl rfl (by kernel_rfl) Tryd.func6 exactReadItem_closed
    (of_decide_eq_true (by kernel_rfl)) (by unfold Func.isWrapper; first | (rw [if_pos (by decide +kernel)]; kernel_rfl) | (rw [if_neg (by decide +kernel)]; exact ⟨rfl, rfl⟩))
    (fun os started H enc _ => returnsInHanded_both (C := Tryd.checked) (X := fun w _ => laidMet Tryd.prog laid7 w) (fun _ _ _ hh h => h.of_heap hh) own started (by kernel_rfl) Tryd.func6
      (ChangeSpec.witness_shaped (enc := enc) (C := Tryd.checked) (os := os) (X := fun w _ => laidMet Tryd.prog laid7 w) false (World.laidAll Tryd.prog os laid7) #[.string ⟨#[]⟩] 8 (World.laidAll_os _ _ _) (startReadItem_shaped os) (by kernel_rfl) (by kernel_rfl) (by kernel_rfl) (startReadItem_met os))
      (fun W base args ds gs before hval hW hL hsh => exactReadItem_contract H enc W base args ds gs before hval hW hL hsh))

set_option maxRecDepth 100000 in
theorem exactReadItem_card : Rows.FnExactReadItemCardSaid :=
  Claim7.holds_tied_plain_at .later [] [.data, .data, .data, .data, .sentinel, .sentinel, .pinned] true (true, "42ed73576d0d23b1fe78a90f9f0287912c31cf7ada755f8b512e18aefeda310c") true
    exactReadItem_holds (fun _ h => by cases h) (by kernel_rfl) (fun _ h => by cases h) fnExactReadItem_row_tie rfl ⟨rfl, rfl⟩ main_is rfl
    (fun f fn hf hfn => by
      obtain rfl : f = 6 := Option.some.inj ((show Tryd.prog.funcNamed "loop.example/restaurantkitchen/laws.FnExactReadItem" = some 6 by kernel_rfl).symm.trans hf) |>.symm
      obtain rfl : fn = Tryd.f6 := (Option.some.inj (Tryd.func6.symm.trans hfn)).symm
      exact ⟨by kernel_rfl, fun j t ht => by
        rw [Tryd.params6] at ht
        have h3 : t = 9 := by
          rcases j with _ | j
          · simpa using ht.symm
          · simp at ht
        subst h3
        exact (show Tryd.prog.wantsStandIn 9 = false by kernel_rfl)⟩)
    (by kernel_rfl)
end Go.Proofs.YtaelapimchmbcaaDoor
