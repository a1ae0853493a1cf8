/- ReadSp: contract of ReadItem of the reference model.
   Conditions: the bounds in each statement. -/
import Derived.Test.YtaelapimchmbcaaDoorReadS
import Derived.BigRegion
import Derived.StillTail
import Derived.OrdersIn
namespace Go.Proofs.YtaelapimchmbcaaDoor
open Go.RowKit Go.ChangeShapes Go.WideShapes Go.ChangeAt Go.Deep

theorem StrSl.below {w w' : World} {lo : Nat} {v : Value} {qs : List (List UInt8)} (h : StrSl w lo v qs) (hb : Below w.heap.size w w') : StrSl w' lo v qs := ownsRow_below h hb
theorem readRes_none {s : List UInt8} (h : itemS2 s = none) : readRes s = (⟨0, [], 0⟩, false) := by
  unfold readRes
  rw [← read_same]
  unfold readS
  rw [h]
theorem readRes_some {s : List UInt8} {x : Item} (h : itemS2 s = some x) : readRes s = (if s ≠ [] ∧ itemTextL x = s then (x, true) else (⟨0, [], 0⟩, false)) := by
  unfold readRes
  rw [← read_same]
  unfold readS
  rw [h]
  show (match (if s ≠ [] ∧ itemTextL x = s then some x else none) with | some x => (x, true) | none => ((⟨0, [], 0⟩ : Item), false)) = _
  by_cases hc : s ≠ [] ∧ itemTextL x = s
  · rw [if_pos hc, if_pos hc]
  · rw [if_neg hc, if_neg hc]
theorem not_twoP {α : Type} {R : List (List UInt8)} (h : R.length ≠ 2) (f : List UInt8 → List UInt8 → Option α) : (match R with | [a, b] => f a b | _ => none) = none := by
  rcases R with _ | ⟨a, _ | ⟨b, _ | ⟨c, r⟩⟩⟩
  · rfl
  · rfl
  · exact absurd rfl h
  · rfl
theorem partsSGo_none {q : List UInt8} {r : List (List UInt8)} (h : (splitC 42 q).length ≠ 2) : partsSGo (q :: r) = none := by
  rw [partsSGo]
  exact not_twoP h _
theorem grown_reflS (w : World) (r : Option Nat) : w.grownBy w r := ⟨rfl, rfl, rfl, Nat.le_refl _, fun _ _ _ => rfl⟩
theorem grown_belowS {w wr w' : World} {b : Nat} (h : w.grownBy wr (some b)) (hb : Below wr.heap.size wr w') : w.grownBy w' (some b) :=
  ⟨hb.os.trans h.os, hb.tape.trans h.tape, hb.output.trans h.output, Nat.le_trans h.size hb.size, fun j hj hne => (hb.block j (Nat.lt_of_lt_of_le hj h.size)).trans (h.block j hj hne)⟩
theorem grown_rowS {w wr w' : World} {b : Nat} {row : Option Nat} (h : w.grownBy wr (some b)) (hg : wr.grownBy w' row) (hr : ∀ k, row = some k → w.heap.size ≤ k) : w.grownBy w' (some b) :=
  ⟨hg.os.trans h.os, hg.tape.trans h.tape, hg.output.trans h.output, Nat.le_trans h.size hg.size, fun j hj hne =>
    (hg.block j (Nat.lt_of_lt_of_le hj h.size) (fun e => by have := hr j e.symm; omega)).trans (h.block j hj hne)⟩
theorem grown_sameS {w wr w' : World} {b : Nat} (h : w.grownBy wr (some b)) (hg : wr.grownBy w' (some b)) : w.grownBy w' (some b) :=
  ⟨hg.os.trans h.os, hg.tape.trans h.tape, hg.output.trans h.output, Nat.le_trans h.size hg.size, fun j hj hne => (hg.block j (Nat.lt_of_lt_of_le hj h.size) hne).trans (h.block j hj hne)⟩
theorem grown_setS (w : World) (g i : Nat) (v : Value) : w.grownBy (w.setCell ⟨g, i, none⟩ v) (some g) :=
  ⟨rfl, rfl, rfl, by simp, fun k _ hne => heap_setCell_other _ ⟨g, i, none⟩ _ _ (fun e => hne (by rw [e]))⟩
theorem splitC_two {c : UInt8} {t a b : List UInt8} (h : splitC c t = [a, b]) : a.length + 1 + b.length = t.length := by
  rcases byte_parts (c := c) t with h1 | ⟨a', b', h1, rfl⟩
  · rw [splitC_none h1] at h
    cases h
  · rw [splitC_app h1] at h
    injection h with h2 h3
    rcases byte_parts (c := c) b' with h4 | ⟨a'', b'', h4, rfl⟩
    · rw [splitC_none h4] at h3
      injection h3 with h3
      rw [← h2, ← h3, List.length_append, List.length_cons]
      omega
    · rw [splitC_app h4] at h3
      injection h3 with _ h3
      have := congrArg List.length h3
      have h5 : 0 < (splitC c b'').length := by
        rcases byte_parts (c := c) b'' with h6 | ⟨_, _, h6, rfl⟩
        · rw [splitC_none h6]; exact Nat.one_pos
        · rw [splitC_app h6]; exact Nat.succ_pos _
      rw [List.length_nil] at this
      omega
theorem two_of {R : List (List UInt8)} (h : R.length = 2) : ∃ a b, R = [a, b] := by
  rcases R with _ | ⟨a, _ | ⟨b, _ | ⟨c, r⟩⟩⟩
  · cases h
  · cases h
  · exact ⟨a, b, rfl⟩
  · simp at h
theorem not_two {α : Type} {R : List (List UInt8)} (h : R.length ≠ 2) (f : List UInt8 → List UInt8 → Option α) : (match R with | [a, b] => f a b | _ => none) = none := by
  rcases R with _ | ⟨a, _ | ⟨b, _ | ⟨c, r⟩⟩⟩
  · rfl
  · rfl
  · exact absurd rfl h
  · rfl

set_option maxRecDepth 100000 in
set_option maxHeartbeats 8000000 in
theorem specReadItem_any (s : List UInt8) (w : World) (hs : s.length ≤ 1048576) : Calls Tryd.prog 14 #[.string ⟨s.toArray⟩] w (ReadPost s w) := by
  have hba : Below w.heap.size w (w.alloc (.cells #[.int .i64 0, .slice none 0 0, .int .i64 0] 25)) := by go_grown
  have hbx := heap_alloc_new w (.cells #[.int .i64 0, .slice none 0 0, .int .i64 0] 25)
  obtain ⟨W, hW⟩ : ∃ W, w.alloc (.cells #[.int .i64 0, .slice none 0 0, .int .i64 0] 25) = W := ⟨_, rfl⟩
  have HW := hide hW
  rw [hW] at hba hbx
  -- what is answered where the text is refused
  have HNO : Hid (∀ W9 : World, Below w.heap.size w W9 → W9.heap[w.heap.size]? = some (.cells #[.int .i64 0, .slice none 0 0, .int .i64 0] 25 (0, 0)) → readRes s = (⟨0, [], 0⟩, false) →
      (Below w.heap.size w (((W9.setCell ⟨w.heap.size, 0, none⟩ (.int .i64 0)).setCell ⟨w.heap.size, 1, none⟩ (.slice none 0 0)).setCell ⟨w.heap.size, 2, none⟩ (.int .i64 0))) ∧
      ((((W9.setCell ⟨w.heap.size, 0, none⟩ (.int .i64 0)).setCell ⟨w.heap.size, 1, none⟩ (.slice none 0 0)).setCell ⟨w.heap.size, 2, none⟩ (.int .i64 0)).cell? ⟨w.heap.size, 0, none⟩ = some (.int .i64 0) ∧
      (((W9.setCell ⟨w.heap.size, 0, none⟩ (.int .i64 0)).setCell ⟨w.heap.size, 1, none⟩ (.slice none 0 0)).setCell ⟨w.heap.size, 2, none⟩ (.int .i64 0)).cell? ⟨w.heap.size, 1, none⟩ = some (.slice none 0 0) ∧
      (((W9.setCell ⟨w.heap.size, 0, none⟩ (.int .i64 0)).setCell ⟨w.heap.size, 1, none⟩ (.slice none 0 0)).setCell ⟨w.heap.size, 2, none⟩ (.int .i64 0)).cell? ⟨w.heap.size, 2, none⟩ = some (.int .i64 0))) :=
    hide (fun W9 hb hx _ => ⟨((hb.setCell (p := ⟨w.heap.size, 0, none⟩) (Nat.le_refl _) _).setCell (p := ⟨w.heap.size, 1, none⟩) (Nat.le_refl _) _).setCell (p := ⟨w.heap.size, 2, none⟩) (Nat.le_refl _) _, put3I hx⟩)
  clear hW
  have HC1 := hide (fun V => l1Cut_any s 33 V hs)
  obtain ⟨hqn, hql⟩ := splitC_len 33 s.length s (Nat.le_refl _)
  have HQL := hide hql
  obtain ⟨R1, hR1⟩ : ∃ R1, splitC 33 s = R1 := ⟨_, rfl⟩
  have HR1 := hide hR1
  rw [hR1] at HC1 hqn HQL
  clear hR1 hql
  go_enter Tryd.func14, Tryd.ntmps14
  go_upto_region 1 with fail
  rw [HW.out]
  go_wp2_with fail
  refine (HC1.out W).mono ?_
  rintro e w1 ⟨g1, cp1, rfl, hS1, hB1⟩
  have hb1 := next hba hB1
  have hx1 := (hB1.block w.heap.size (heap_ltI hbx)).trans hbx
  by_cases hl1 : R1.length = 2
  · obtain ⟨P, M, rfl⟩ := two_of hl1
    have p0 := hS1.cell (i := 0) (q := P) rfl
    have hPl := HQL.out P (by simp)
    have hMl := HQL.out M (by simp)
    have HC2 := hide (fun V => l1Cut_any P 61 V (by omega))
    obtain ⟨hqn2, hql2⟩ := splitC_len 61 P.length P (Nat.le_refl _)
    have HQL2 := hide hql2
    obtain ⟨R2, hR2⟩ : ∃ R2, splitC 61 P = R2 := ⟨_, rfl⟩
    have HR2 := hide hR2
    rw [hR2] at HC2 hqn2 HQL2
    clear hR2 hql2 hl1
    go_wp2_with fail
    refine (HC2.out w1).mono ?_
    rintro e w2 ⟨g2, cp2, rfl, hS2, hB2⟩
    have hb2 := next hb1 hB2
    have hx2 := (hB2.block w.heap.size (heap_ltI hx1)).trans hx1
    have hS12 := hS1.below hB2
    clear p0
    by_cases hl2 : R2.length = 2
    · obtain ⟨Y, J, rfl⟩ := two_of hl2
      have hYl := HQL2.out Y (by simp)
      have hJl := HQL2.out J (by simp)
      have p0 := hS12.cell (i := 1) (q := M) rfl
      have p1 := hS2.cell (i := 0) (q := Y) rfl
      have HRY := hide (fun V => l1Read_any Y V (by omega))
      have HRM := hide (fun V => l1Read_any M V (by omega))
      obtain ⟨y, hy⟩ : ∃ y, numS Y = y := ⟨_, rfl⟩
      obtain ⟨m, hm⟩ : ∃ m, numS M = m := ⟨_, rfl⟩
      have HYM := hide (And.intro hy hm)
      rw [hy] at HRY
      rw [hm] at HRM
      have HC : Hid (∀ V, Below w2.heap.size w2 V → V.cell? ⟨g1, 1, none⟩ = some (.string ⟨M.toArray⟩) ∧ V.cell? ⟨g2, 0, none⟩ = some (.string ⟨Y.toArray⟩)) := hide (fun V hV => ⟨(hV.cell (cell_lt p0).1).trans p0, (hV.cell (cell_lt p1).1).trans p1⟩)
      clear hy hm hl2 p0 p1
      go_upto_region 7 with fail
      go_cut [6] (fun v wx => v = .pointer (some ⟨w2.heap.size, 0, none⟩) ∧ Hid (wx.heap[w2.heap.size]? = some (.cells #[.int .i64 y, .slice none 0 0, .int .i64 m] 25 (0, 0))) ∧ Hid (Below w2.heap.size w2 wx))
      case first =>
        go_wp2_with fail
        go_region_held3 (fun V => V.cell? ⟨g1, 1, none⟩ = some (.string ⟨M.toArray⟩) ∧ V.cell? ⟨g2, 0, none⟩ = some (.string ⟨Y.toArray⟩))
          (first | exact HC.out _ (Below.refl _ _).drew | exact HC.out _ (by go_grown))
          (first | (go_at_call 32; (with_reducible refine (HRY.out _).mono ?_); rintro e V1 ⟨rfl, rfl⟩) | (go_at_call 32; (with_reducible refine (HRM.out _).mono ?_); rintro e V2 ⟨rfl, rfl⟩))
        all_goals
          go_wp2_with fail
          go_meet
          exact ⟨rfl, hide (heap_alloc_new w2 _), hide (by go_grown)⟩
      case rest =>
        obtain ⟨rfl, HX6, HB6⟩ := hcut
        have hb6 := hb2.trans (HB6.out.mono hb2.size)
        have hx6 := (HB6.out.block w.heap.size (heap_ltI hx2)).trans hx2
        have hS26 := hS2.below HB6.out
        have p1 := hS26.cell (i := 1) (q := J) rfl
        have HC3 := hide (fun V => l1Cut_any J 44 V (by omega))
        obtain ⟨hqn3, hql3⟩ := splitC_len 44 J.length J (Nat.le_refl _)
        have HQL3 := hide hql3
        obtain ⟨R3, hR3⟩ : ∃ R3, splitC 44 J = R3 := ⟨_, rfl⟩
        have HR3 := hide hR3
        rw [hR3] at HC3 hqn3 HQL3
        obtain ⟨hy, hm⟩ := HYM.out
        have HIS : Hid (itemS2 s = (partsS2 J).map (fun ps => (⟨y, ps, m⟩ : Item))) := hide (by
          unfold itemS2
          rw [HR1.out]
          show (match splitC 61 P with | [y, j] => (partsS2 j).map (fun ps => (⟨numS y, ps, numS M⟩ : Item)) | _ => none) = _
          rw [HR2.out, ← hy, ← hm])
        clear hR3 hql3 hy hm
        have hsl1 := splitC_two HR1.out
        have hsl2 := splitC_two HR2.out
        have hR3l : R3.length ≤ 1048576 := by omega
        go_wp2_with fail
        refine (HC3.out wc).mono ?_
        rintro e w7 ⟨g3, cp3, rfl, hS3, hB7⟩
        have hb7 := next hb6 hB7
        have HX7 := hide ((hB7.block w.heap.size (heap_ltI hx6)).trans hx6)
        have HY7 := hide ((hB7.block w2.heap.size (heap_ltI HX6.out)).trans HX6.out)
        have HS27 := hide (hS26.below hB7)
        have HS3 := hide hS3
        have HLO : Hid (w.heap.size < w7.heap.size) := hide (heap_ltI HX7.out)
        have HL2 : Hid (w2.heap.size < w7.heap.size) := hide (heap_ltI HY7.out)
        have hg22 : g2 < w2.heap.size := (World.ownsRow.lt hS2 g2 rfl).2
        have hg27 : g2 < w7.heap.size := Nat.lt_trans hg22 HL2.out
        have h02 : w.heap.size < w2.heap.size := heap_ltI hx2
        have h2c : w2.heap.size < wc.heap.size := heap_ltI HX6.out
        have hg3c : wc.heap.size ≤ g3 := (World.ownsRow.lt hS3 g3 rfl).1
        have hg37 : g3 < w7.heap.size := (World.ownsRow.lt hS3 g3 rfl).2
        have HB7 := hide hb7
        clear hS12 hS1 hS2 hS26 hS3 hb1 hb2 hb6 hx1 hx2 hx6 hb7 hba hbx hB1 hB2 hB7 p1
        cases hJ : J.isEmpty with
        | true =>
          have hJ0 : J = [] := List.isEmpty_iff.1 hJ
          have HSI : Hid (itemS2 s = some ⟨y, [], m⟩) := hide (by rw [HIS.out, hJ0]; rfl)
          have p1 := HS27.out.cell (i := 1) (q := J) rfl
          have HPS : Hid (PartSl w7 w7.heap.size (.slice none 0 0) []) := hide (World.ownsRow_nil _ _ _ _)
          have hpl : ([] : List Part).length ≤ 1048576 := by simp
          have hR31 : 0 < R3.length := by rw [← HR3.out, hJ0]; exact Nat.one_pos
          have hR32 : (0 : Int) < R3.length := by omega
          have HIT := HY7
          have HXR := HX7
          have HB := HB7
          clear hJ0
          go_wp2_with fail
          go_loopw [8] (fun kv wr => kv = .int .i64 0 ∧ wr = w7) (fun _ _ => 0)
          case atStart => exact ⟨rfl, rfl⟩
          case round =>
            obtain ⟨rfl, hw⟩ := hrel
            subst wr
            obtain ⟨c0, c1, c2⟩ := cells3I HIT.out
            obtain ⟨d0, d1, d2⟩ := cells3I HXR.out
            have k0 := frozen_of_row w7 w.heap.size 0 _ _ HXR.out
            have k1 := frozen_of_row w7 w.heap.size 1 _ _ HXR.out
            have k2 := frozen_of_row w7 w.heap.size 2 _ _ HXR.out
            have HRS := hide (readRes_some HSI.out)
            cases he : s.isEmpty with
            | true =>
              have hs0 : s = [] := List.isEmpty_iff.1 he
              have hr : readRes s = (⟨0, [], 0⟩, false) := by rw [HRS.out, if_neg (fun h => h.1 hs0)]
              have HE := hide (HNO.out w7 HB.out HXR.out hr)
              have HRR := hide hr
              clear hr hs0
              go_wp2_with fail
              obtain ⟨hbe, f0, f1, f2⟩ := HE.out
              exact bodyPost_ret (v := .tuple #[.agg #[.int .i64 0, .slice none 0 0, .int .i64 0], .bool false]) (by simp [results, Tryd.results14, go_sem, f0, f1, f2]) rfl ⟨.slice none 0 0, by rw [HRR.out], by rw [HRR.out]; exact World.ownsRow_nil _ _ _ _, hbe⟩
            | false =>
              have hPf : PartsAt w7 none ([] : List Part) := by obtain ⟨A9, c9, e9, h9⟩ := HPS.out.form; injection e9 with e1 e2 e3; subst e1; exact h9
              have HT := hide (specItemText_any none 0 ⟨y, [], m⟩ w7 hPf hpl)
              clear hPf
              go_wp2_with fail
              refine HT.out.mono ?_
              rintro e w9 ⟨rfl, hB9⟩
              obtain ⟨T, hT⟩ : ∃ T, itemTextL ⟨y, [], m⟩ = T := ⟨_, rfl⟩
              rw [hT]
              have hb9 := next HB.out hB9
              have hx9 := (hB9.block w.heap.size (heap_ltI HXR.out)).trans HXR.out
              have hy9 := (hB9.block w2.heap.size (heap_ltI HIT.out)).trans HIT.out
              have hP9 : PartSl w9 w7.heap.size (.slice none 0 0) ([] : List Part) := ownsRow_below HPS.out hB9
              have hs0 : s ≠ [] := fun e => by rw [e] at he; cases he
              clear c0 c1 c2 d0 d1 d2 k0 k1 k2 hB9
              obtain ⟨c0, c1, c2⟩ := cells3I hy9
              obtain ⟨d0, d1, d2⟩ := cells3I hx9
              have k0 := frozen_of_row w9 w.heap.size 0 _ _ hx9
              have k1 := frozen_of_row w9 w.heap.size 1 _ _ hx9
              have k2 := frozen_of_row w9 w.heap.size 2 _ _ hx9
              by_cases hTs : T = s
              · have HR : Hid (readRes s = (⟨y, [], m⟩, true)) := hide (by rw [HRS.out, if_pos ⟨hs0, by rw [hT, hTs]⟩])
                obtain ⟨f0, f1, f2⟩ := put3I (u := .int .i64 y) (v := .slice none 0 0) (x := .int .i64 m) hx9
                have hbe := ((hb9.setCell (p := ⟨w.heap.size, 0, none⟩) (Nat.le_refl _) (.int .i64 y)).setCell (p := ⟨w.heap.size, 1, none⟩) (Nat.le_refl _) (.slice none 0 0)).setCell (p := ⟨w.heap.size, 2, none⟩) (Nat.le_refl _) (.int .i64 m)
                have hPe : PartSl (((w9.setCell ⟨w.heap.size, 0, none⟩ (.int .i64 y)).setCell ⟨w.heap.size, 1, none⟩ (.slice none 0 0)).setCell ⟨w.heap.size, 2, none⟩ (.int .i64 m)) w.heap.size (.slice none 0 0) ([] : List Part) :=
                  World.ownsRow.mono (((hP9.setBelow HLO.out 0 _).setBelow HLO.out 1 _).setBelow HLO.out 2 _) (Nat.le_of_lt HLO.out)
                have HE := hide (And.intro hbe (And.intro f0 (And.intro f1 (And.intro f2 hPe))))
                have hne : (T != s) = false := by simp [hTs]
                have hne2 : (T == s) = true := by simp [hTs]
                clear hbe f0 f1 f2 hPe hT hs0 hP9
                go_wp2_with fail
                obtain ⟨hbe, f0, f1, f2, hPe⟩ := HE.out
                exact bodyPost_ret (v := .tuple #[.agg #[.int .i64 y, .slice none 0 0, .int .i64 m], .bool true]) (by simp [results, Tryd.results14, go_sem, f0, f1, f2]) rfl ⟨.slice none 0 0, by rw [HR.out], by rw [HR.out]; exact hPe, hbe⟩
              · have hr : readRes s = (⟨0, [], 0⟩, false) := by rw [HRS.out, if_neg (fun h => hTs (by rw [← hT]; exact h.2))]
                have HE := hide (HNO.out w9 hb9 hx9 hr)
                have HRR := hide hr
                have hne : (T != s) = true := by simp [hTs]
                have hne2 : (T == s) = false := by simp [hTs]
                clear hr hs0 hT hP9
                go_wp2_with fail
                obtain ⟨hbe, f0, f1, f2⟩ := HE.out
                exact bodyPost_ret (v := .tuple #[.agg #[.int .i64 0, .slice none 0 0, .int .i64 0], .bool false]) (by simp [results, Tryd.results14, go_sem, f0, f1, f2]) rfl ⟨.slice none 0 0, by rw [HRR.out], by rw [HRR.out]; exact World.ownsRow_nil _ _ _ _, hbe⟩
        | false =>
          have hJ0 : J ≠ [] := fun e => by rw [e] at hJ; cases hJ
          have HPJ : Hid (partsS2 J = partsSGo R3) := hide (by unfold partsS2; rw [if_neg hJ0, HR3.out])
          have HPS0 : Hid (PartSl w7 w7.heap.size (.slice none 0 0) []) := hide (World.ownsRow_nil _ _ _ _)
          have HG0 : Hid (partsS2 J = (partsSGo (R3.drop 0)).map (fun r => ([] : List Part) ++ r)) := hide (by rw [HPJ.out, List.drop_zero]; cases partsSGo R3 <;> rfl)
          clear hJ0
          go_wp2_with fail
          go_loopw [8] (fun kv wr => ∃ (k : Nat) (ps : List Part) (PA : Option Addr) (cpp : Nat), k ≤ R3.length ∧ kv = .int .i64 k ∧ Hid (wr.heap[w2.heap.size]? = some (.cells #[.int .i64 y, .slice PA ps.length cpp, .int .i64 m] 25 (0, 0))) ∧
              Hid (PartSl wr w7.heap.size (.slice PA ps.length cpp) ps) ∧ Hid (partsS2 J = (partsSGo (R3.drop k)).map (fun r => ps ++ r)) ∧ Hid (ps.length = k) ∧ Hid (w7.grownBy wr (some w2.heap.size))) (fun kv _ => R3.length - (intOf kv).toNat)
          case atStart => exact ⟨0, [], none, 0, Nat.zero_le _, rfl, HY7, HPS0, HG0, hide rfl, hide (grown_reflS w7 _)⟩
          case round =>
            clear HPS0 HG0
            obtain ⟨k, ps, PA, cpp, hk, rfl, HIT, HPS, HG, HPL, HBR⟩ := hrel
            have HXR := hide ((HBR.out.block w.heap.size (heap_ltI HX7.out) (fun e => by injection e with e; omega)).trans HX7.out)
            have HB := hide (HB7.out.grown HBR.out HB7.out.size (fun j hj => by injection hj with hj; omega))
            have p1 : wr.cell? ⟨g2, 1, none⟩ = some (.string ⟨J.toArray⟩) := (World.cell?_of_block (HBR.out.block g2 hg27 (fun e => by injection e with e; omega))).trans (HS27.out.cell (i := 1) (q := J) rfl)
            by_cases hlt : k < R3.length
            · obtain ⟨q, hq⟩ : ∃ q, R3[k]? = some q := ⟨_, List.getElem?_eq_getElem hlt⟩
              have hql := HQL3.out q (List.mem_of_getElem? hq)
              have hc3 : wr.cell? ⟨g3, k, none⟩ = some (.string ⟨q.toArray⟩) := (World.cell?_of_block (HBR.out.block g3 hg37 (fun e => by injection e with e; omega))).trans (HS3.out.cell hq)
              have HDR : Hid (R3.drop k = q :: R3.drop (k + 1)) := hide (by
                rw [List.drop_eq_getElem_cons hlt]
                rw [List.getElem?_eq_getElem hlt] at hq
                injection hq with hq
                rw [hq])
              have HC4 := hide (fun V => l1Cut_any q 42 V (by omega))
              obtain ⟨hqn4, hql4⟩ := splitC_len 42 q.length q (Nat.le_refl _)
              have HQL4 := hide hql4
              obtain ⟨R4, hR4⟩ : ∃ R4, splitC 42 q = R4 := ⟨_, rfl⟩
              have HR4 := hide hR4
              rw [hR4] at HC4 hqn4 HQL4
              have hz : (0 : Int) ≤ k := by omega
              have hz2 : (k : Int) < R3.length := by omega
              clear hR4 hql4 hq
              go_wp2_with fail
              refine (HC4.out wr).mono ?_
              rintro e w8 ⟨g4, cp4, rfl, hS4, hB8⟩
              have hb8 := next HB.out hB8
              have hx8 := (hB8.block w.heap.size (heap_ltI HXR.out)).trans HXR.out
              have hy8 := (hB8.block w2.heap.size (heap_ltI HIT.out)).trans HIT.out
              clear p1 hc3
              by_cases hl4 : R4.length = 2
              · obtain ⟨O, N, rfl⟩ := two_of hl4
                have hOl := HQL4.out O (by simp)
                have hNl := HQL4.out N (by simp)
                have q0 := hS4.cell (i := 0) (q := O) rfl
                have q1 := hS4.cell (i := 1) (q := N) rfl
                obtain ⟨c0, c1, c2⟩ := cells3I hy8
                have fz := frozen_of_row w8 w2.heap.size 1 _ _ hy8
                obtain ⟨o, ho⟩ : ∃ o, numS O = o := ⟨_, rfl⟩
                obtain ⟨n, hn⟩ : ∃ n, numS N = n := ⟨_, rfl⟩
                have HRO := hide (fun V => l1Read_any O V (by omega))
                have HRN := hide (fun V => l1Read_any N V (by omega))
                rw [ho] at HRO
                rw [hn] at HRN
                have HG2 : Hid (partsS2 J = (partsSGo (R3.drop (k + 1))).map (fun r => (ps ++ [⟨o, n⟩]) ++ r)) := hide (by
                  rw [HG.out, HDR.out, partsSGo, HR4.out]
                  show (((partsSGo (R3.drop (k + 1))).map (fun ps => (⟨numS O, numS N⟩ : Part) :: ps)).map (fun r => ps ++ r)) = _
                  rw [ho, hn]
                  cases partsSGo (R3.drop (k + 1)) with
                  | none => rfl
                  | some r => simp)
                have hps : ps.length ≤ 1048576 := by rw [HPL.out]; omega
                have HP8 := hide (ownsRow_below HPS.out hB8)
                have hg4 : wr.heap.size ≤ g4 := (World.ownsRow.lt hS4 g4 rfl).1
                have hg4' : g4 < w8.heap.size := (World.ownsRow.lt hS4 g4 rfl).2
                have hbr8 : w7.grownBy w8 (some w2.heap.size) := grown_belowS HBR.out hB8
                have HPA : Hid (PartSl (w8.alloc (.cells #[.int .i64 o, .int .i64 n] 48)).drew w7.heap.size (.slice PA ps.length cpp) ps) := hide (World.ownsRow.alloc HP8.out _)
                have HAP : Hid (∀ W9, (w8.alloc (.cells #[.int .i64 o, .int .i64 n] 48)).drew.grownBy W9 (Value.slice PA ps.length cpp).ownBlock →
                    (W9.cell? ⟨w2.heap.size, 1, none⟩ = some (.slice PA ps.length cpp) ∧ W9.frozen? ⟨w2.heap.size, 1, none⟩ = false ∧ W9.cell? ⟨g4, 0, none⟩ = some (.string ⟨O.toArray⟩) ∧ W9.cell? ⟨g4, 1, none⟩ = some (.string ⟨N.toArray⟩)) ∧
                      w7.grownBy W9 (some w2.heap.size) ∧ W9.heap[w2.heap.size]? = some (.cells #[.int .i64 y, .slice PA ps.length cpp, .int .i64 m] 25 (0, 0))) := hide (fun W9 h9 => by
                  have hne : ∀ b, (b < w7.heap.size ∨ wr.heap.size ≤ b) → some b ≠ (Value.slice PA ps.length cpp).ownBlock := fun b hb e => by
                    have := World.ownsRow.lt HPS.out b e.symm
                    omega
                  have z1 : W9.heap[w2.heap.size]? = some (.cells #[.int .i64 y, .slice PA ps.length cpp, .int .i64 m] 25 (0, 0)) := (h9.block w2.heap.size (by simp; have := heap_ltI hy8; omega) (hne _ (.inl HL2.out))).trans ((heap_alloc_old w8 _ (heap_ltI hy8)).trans hy8)
                  have z2 : W9.heap[g4]? = w8.heap[g4]? := (h9.block g4 (by simp; omega) (hne _ (.inr hg4))).trans (heap_alloc_old w8 _ hg4')
                  exact ⟨⟨(cells3I z1).2.1, frozen_of_row W9 w2.heap.size 1 _ _ z1, (World.cell?_of_block z2).trans q0, (World.cell?_of_block z2).trans q1⟩, grown_rowS (grown_belowS hbr8 (((Below.refl w8.heap.size w8).alloc (Nat.le_refl _) _).drew)) h9 (fun j hj => (World.ownsRow.lt HPS.out j hj).1), z1⟩)
                have HC : Hid (∀ V, Below w8.heap.size w8 V → V.cell? ⟨w2.heap.size, 1, none⟩ = some (.slice PA ps.length cpp) ∧ V.frozen? ⟨w2.heap.size, 1, none⟩ = false ∧ V.cell? ⟨g4, 0, none⟩ = some (.string ⟨O.toArray⟩) ∧ V.cell? ⟨g4, 1, none⟩ = some (.string ⟨N.toArray⟩)) := hide (fun V hV => by
                  have z1 := (hV.block w2.heap.size (heap_ltI hy8)).trans hy8
                  exact ⟨(cells3I z1).2.1, frozen_of_row V w2.heap.size 1 _ _ z1, (hV.cell (cell_lt q0).1).trans q0, (hV.cell (cell_lt q1).1).trans q1⟩)
                have hsz8 : w7.heap.size ≤ w8.heap.size := hbr8.size
                clear ho hn q0 q1 c0 c1 c2 fz hl4 hx8 hy8 hb8 hB8 hS4 hg4 hg4' hbr8
                go_wp2_with fail
                obtain ⟨e1, e2, e3, e4⟩ := HC.out w8.drew (Below.refl _ _).drew
                obtain ⟨f1, f2, f3, f4⟩ := HC.out (w8.alloc (.cells #[.int .i64 o, .int .i64 n] 48)).drew (((Below.refl _ _).alloc (Nat.le_refl _) _).drew)
                go_region_law (first | (refine step_push_part (by rfl) _ _ (by rfl) w7.heap.size (.slice PA ps.length cpp) ps (by rfl) HPA.out w8.heap.size ⟨o, n⟩ (by rfl) (heap_alloc_new w8 _) hps (by simp; omega) ?_; intro g5 cap W9 hown hgrow; obtain ⟨⟨u1, u2, -, -⟩, -, -⟩ := HAP.out _ hgrow) | (go_simp; go_at_call 32; (with_reducible refine (HRO.out _).mono ?_); rintro e V1 ⟨rfl, rfl⟩) | (go_simp; go_at_call 32; (with_reducible refine (HRN.out _).mono ?_); rintro e V2 ⟨rfl, rfl⟩))
                all_goals
                  have h9 := HAP.out _ hgrow
                  obtain ⟨-, hb9, hz9⟩ := h9
                  have hlen9 : (ps ++ [(⟨o, n⟩ : Part)]).length = ps.length + 1 := by rw [List.length_append]; rfl
                  have hown9 : PartSl W9 w7.heap.size (.slice (some ⟨g5, 0, none⟩) (ps ++ [(⟨o, n⟩ : Part)]).length cap) (ps ++ [⟨o, n⟩]) := by rw [hlen9]; exact hown
                  have hput : (W9.setCell ⟨w2.heap.size, 1, none⟩ (.slice (some ⟨g5, 0, none⟩) (ps.length + 1) cap)).heap[w2.heap.size]? = some (.cells #[.int .i64 y, .slice (some ⟨g5, 0, none⟩) (ps ++ [(⟨o, n⟩ : Part)]).length cap, .int .i64 m] 25 (0, 0)) := by rw [heap_setCell_same _ w2.heap.size 1 _ _ _ hz9, hlen9]; rfl
                  have HF1 := hide hput
                  have HF2 := hide (hown9.setBelow HL2.out 1 (.slice (some ⟨g5, 0, none⟩) (ps.length + 1) cap))
                  have HF3 := hide (grown_sameS hb9 (grown_setS W9 w2.heap.size 1 (.slice (some ⟨g5, 0, none⟩) (ps.length + 1) cap)))
                  have HF4 : Hid ((ps ++ [(⟨o, n⟩ : Part)]).length = k + 1) := hide (by rw [hlen9, HPL.out])
                  clear hput hown9 hz9 hb9 hgrow hown hlen9
                  go_wp2_with fail
                  go_roundw
                  case rel => exact ⟨k + 1, ps ++ [⟨o, n⟩], some ⟨g5, 0, none⟩, cap, hlt, by go_num, HF1, HF2, HG2, HF4, HF3⟩
                  case measure => simp [intOf]; omega
              · have hr : readRes s = (⟨0, [], 0⟩, false) := readRes_none (by rw [HIS.out, HG.out, HDR.out, partsSGo_none (by rw [HR4.out]; exact hl4)]; rfl)
                have HE := hide (HNO.out w8 hb8 hx8 hr)
                have HRR := hide hr
                obtain ⟨d0, d1, d2⟩ := cells3I hx8
                have k0 := frozen_of_row w8 w.heap.size 0 _ _ hx8
                have k1 := frozen_of_row w8 w.heap.size 1 _ _ hx8
                have k2 := frozen_of_row w8 w.heap.size 2 _ _ hx8
                clear hr
                have hlb : ((R4.length : Int) != 2) = true := by simp; omega
                go_wp2_with fail
                obtain ⟨hbe, f0, f1, f2⟩ := HE.out
                exact bodyPost_ret (v := .tuple #[.agg #[.int .i64 0, .slice none 0 0, .int .i64 0], .bool false]) (by simp [results, Tryd.results14, go_sem, f0, f1, f2]) rfl ⟨.slice none 0 0, by rw [HRR.out], by rw [HRR.out]; exact World.ownsRow_nil _ _ _ _, hbe⟩
            · obtain rfl : k = R3.length := by omega
              have HSI : Hid (itemS2 s = some ⟨y, ps, m⟩) := hide (by rw [HIS.out, HG.out, List.drop_of_length_le (Nat.le_refl _)]; simp [partsSGo])
              have hpl : ps.length ≤ 1048576 := by rw [HPL.out]; exact hR3l
              obtain ⟨c0, c1, c2⟩ := cells3I HIT.out
              obtain ⟨d0, d1, d2⟩ := cells3I HXR.out
              have k0 := frozen_of_row wr w.heap.size 0 _ _ HXR.out
              have k1 := frozen_of_row wr w.heap.size 1 _ _ HXR.out
              have k2 := frozen_of_row wr w.heap.size 2 _ _ HXR.out
              have HRS := hide (readRes_some HSI.out)
              cases he : s.isEmpty with
              | true =>
                have hs0 : s = [] := List.isEmpty_iff.1 he
                have hr : readRes s = (⟨0, [], 0⟩, false) := by rw [HRS.out, if_neg (fun h => h.1 hs0)]
                have HE := hide (HNO.out wr HB.out HXR.out hr)
                have HRR := hide hr
                clear hr hs0
                go_wp2_with fail
                obtain ⟨hbe, f0, f1, f2⟩ := HE.out
                exact bodyPost_ret (v := .tuple #[.agg #[.int .i64 0, .slice none 0 0, .int .i64 0], .bool false]) (by simp [results, Tryd.results14, go_sem, f0, f1, f2]) rfl ⟨.slice none 0 0, by rw [HRR.out], by rw [HRR.out]; exact World.ownsRow_nil _ _ _ _, hbe⟩
              | false =>
                have hPf : PartsAt wr PA ps := by obtain ⟨A9, c9, e9, h9⟩ := HPS.out.form; injection e9 with e1 e2 e3; subst e1; exact h9
                have HT := hide (specItemText_any PA cpp ⟨y, ps, m⟩ wr hPf hpl)
                clear hPf
                go_wp2_with fail
                refine HT.out.mono ?_
                rintro e w9 ⟨rfl, hB9⟩
                obtain ⟨T, hT⟩ : ∃ T, itemTextL ⟨y, ps, m⟩ = T := ⟨_, rfl⟩
                rw [hT]
                have hb9 := next HB.out hB9
                have hx9 := (hB9.block w.heap.size (heap_ltI HXR.out)).trans HXR.out
                have hy9 := (hB9.block w2.heap.size (heap_ltI HIT.out)).trans HIT.out
                have hP9 : PartSl w9 w7.heap.size (.slice PA ps.length cpp) ps := ownsRow_below HPS.out hB9
                have hs0 : s ≠ [] := fun e => by rw [e] at he; cases he
                clear c0 c1 c2 d0 d1 d2 k0 k1 k2 hB9
                obtain ⟨c0, c1, c2⟩ := cells3I hy9
                obtain ⟨d0, d1, d2⟩ := cells3I hx9
                have k0 := frozen_of_row w9 w.heap.size 0 _ _ hx9
                have k1 := frozen_of_row w9 w.heap.size 1 _ _ hx9
                have k2 := frozen_of_row w9 w.heap.size 2 _ _ hx9
                by_cases hTs : T = s
                · have HR : Hid (readRes s = (⟨y, ps, m⟩, true)) := hide (by rw [HRS.out, if_pos ⟨hs0, by rw [hT, hTs]⟩])
                  obtain ⟨f0, f1, f2⟩ := put3I (u := .int .i64 y) (v := .slice PA ps.length cpp) (x := .int .i64 m) hx9
                  have hbe := ((hb9.setCell (p := ⟨w.heap.size, 0, none⟩) (Nat.le_refl _) (.int .i64 y)).setCell (p := ⟨w.heap.size, 1, none⟩) (Nat.le_refl _) (.slice PA ps.length cpp)).setCell (p := ⟨w.heap.size, 2, none⟩) (Nat.le_refl _) (.int .i64 m)
                  have hPe : PartSl (((w9.setCell ⟨w.heap.size, 0, none⟩ (.int .i64 y)).setCell ⟨w.heap.size, 1, none⟩ (.slice PA ps.length cpp)).setCell ⟨w.heap.size, 2, none⟩ (.int .i64 m)) w.heap.size (.slice PA ps.length cpp) ps :=
                    World.ownsRow.mono (((hP9.setBelow HLO.out 0 _).setBelow HLO.out 1 _).setBelow HLO.out 2 _) (Nat.le_of_lt HLO.out)
                  have HE := hide (And.intro hbe (And.intro f0 (And.intro f1 (And.intro f2 hPe))))
                  have hne : (T != s) = false := by simp [hTs]
                  have hne2 : (T == s) = true := by simp [hTs]
                  clear hbe f0 f1 f2 hPe hT hs0 hP9
                  go_wp2_with fail
                  obtain ⟨hbe, f0, f1, f2, hPe⟩ := HE.out
                  exact bodyPost_ret (v := .tuple #[.agg #[.int .i64 y, .slice PA ps.length cpp, .int .i64 m], .bool true]) (by simp [results, Tryd.results14, go_sem, f0, f1, f2]) rfl ⟨.slice PA ps.length cpp, by rw [HR.out], by rw [HR.out]; exact hPe, hbe⟩
                · have hr : readRes s = (⟨0, [], 0⟩, false) := by rw [HRS.out, if_neg (fun h => hTs (by rw [← hT]; exact h.2))]
                  have HE := hide (HNO.out w9 hb9 hx9 hr)
                  have HRR := hide hr
                  have hne : (T != s) = true := by simp [hTs]
                  have hne2 : (T == s) = false := by simp [hTs]
                  clear hr hs0 hT hP9
                  go_wp2_with fail
                  obtain ⟨hbe, f0, f1, f2⟩ := HE.out
                  exact bodyPost_ret (v := .tuple #[.agg #[.int .i64 0, .slice none 0 0, .int .i64 0], .bool false]) (by simp [results, Tryd.results14, go_sem, f0, f1, f2]) rfl ⟨.slice none 0 0, by rw [HRR.out], by rw [HRR.out]; exact World.ownsRow_nil _ _ _ _, hbe⟩
    · have hr : readRes s = (⟨0, [], 0⟩, false) := readRes_none (by unfold itemS2; rw [HR1.out]; show (match splitC 61 P with | [y, j] => (partsS2 j).map (fun ps => (⟨numS y, ps, numS M⟩ : Item)) | _ => none) = none; rw [HR2.out]; exact not_two hl2 _)
      have HE := hide (HNO.out w2 hb2 hx2 hr)
      have HRR := hide hr
      have hlb : ((R2.length : Int) != 2) = true := by simp; omega
      obtain ⟨d0, d1, d2⟩ := cells3I hx2
      have k0 := frozen_of_row w2 w.heap.size 0 _ _ hx2
      have k1 := frozen_of_row w2 w.heap.size 1 _ _ hx2
      have k2 := frozen_of_row w2 w.heap.size 2 _ _ hx2
      clear hr
      go_wp2_with fail
      obtain ⟨hbe, f0, f1, f2⟩ := HE.out
      exact bodyPost_ret (v := .tuple #[.agg #[.int .i64 0, .slice none 0 0, .int .i64 0], .bool false]) (by simp [results, Tryd.results14, go_sem, f0, f1, f2]) rfl ⟨.slice none 0 0, by rw [HRR.out], by rw [HRR.out]; exact World.ownsRow_nil _ _ _ _, hbe⟩
  · have hr : readRes s = (⟨0, [], 0⟩, false) := readRes_none (by unfold itemS2; rw [HR1.out]; exact not_two hl1 _)
    have HE := hide (HNO.out w1 hb1 hx1 hr)
    have HRR := hide hr
    have hlb : ((R1.length : Int) != 2) = true := by simp; omega
    obtain ⟨d0, d1, d2⟩ := cells3I hx1
    have k0 := frozen_of_row w1 w.heap.size 0 _ _ hx1
    have k1 := frozen_of_row w1 w.heap.size 1 _ _ hx1
    have k2 := frozen_of_row w1 w.heap.size 2 _ _ hx1
    clear hr
    go_wp2_with fail
    obtain ⟨hbe, f0, f1, f2⟩ := HE.out
    exact bodyPost_ret (v := .tuple #[.agg #[.int .i64 0, .slice none 0 0, .int .i64 0], .bool false]) (by simp [results, Tryd.results14, go_sem, f0, f1, f2]) rfl ⟨.slice none 0 0, by rw [HRR.out], by rw [HRR.out]; exact World.ownsRow_nil _ _ _ _, hbe⟩
end Go.Proofs.YtaelapimchmbcaaDoor
