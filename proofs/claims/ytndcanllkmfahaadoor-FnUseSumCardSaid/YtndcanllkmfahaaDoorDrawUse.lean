/- Contract of the draw of lots, wants and a table of what is used.
   Conditions: the bounds in each statement. -/
import Derived.Test.YtndcanllkmfahaaDoorTabKit
import Derived.Test.YtndcanllkmfahaaDoorTakeMath
import Derived.Deep.DeepCutAuto
import Derived.StillTailTactics
namespace Go.Proofs.YtndcanllkmfahaaDoor
open Go.RowKit Go.ChangeShapes Go.WideShapes Go.ChangeAt Go.Deep

def RowsIn (B : Int) (rows : List (List Int)) : Prop := ∀ x ∈ rows, x.length ≤ 6 ∧ ∀ t ∈ x, 0 ≤ t ∧ t ≤ B
/-- What is left as it was: all that a draw owned at the world W0. -/
def Kept (lo : Nat) (W0 W : World) : Prop := (∀ j, lo ≤ j → j < W0.heap.size → W.heap[j]? = W0.heap[j]?) ∧ W0.heap.size ≤ W.heap.size
theorem Kept.refl (lo : Nat) (w : World) : Kept lo w w := ⟨fun _ _ _ => rfl, Nat.le_refl _⟩
theorem Kept.alloc {lo : Nat} {w W : World} (h : Kept lo w W) (o : Obj) : Kept lo w (W.alloc o) := ⟨fun j a b => (heap_alloc_old W o (Nat.lt_of_lt_of_le b h.2)).trans (h.1 j a b), by have := h.2; simp; omega⟩
theorem Kept.pick {lo b : Nat} {w W W' : World} (h : Kept lo w W) (hb : b < lo) (hg : W.grownBy W' (some b)) : Kept lo w W' :=
  ⟨fun j a c => (hg.block j (Nat.lt_of_lt_of_le c h.2) (fun e => by injection e with e; omega)).trans (h.1 j a c), Nat.le_trans h.2 hg.size⟩
theorem Kept.store {lo g : Nat} {w W W' : World} (h : Kept lo w W) (hb : w.heap.size ≤ g) (hg : W.grownBy W' (some g)) : Kept lo w W' :=
  ⟨fun j a c => (hg.block j (Nat.lt_of_lt_of_le c h.2) (fun e => by injection e with e; omega)).trans (h.1 j a c), Nat.le_trans h.2 hg.size⟩
theorem Kept.below {lo : Nat} {w W W' : World} (h : Kept lo w W) (hb : Below W.heap.size W W') : Kept lo w W' :=
  ⟨fun j a c => (hb.block j (Nat.lt_of_lt_of_le c h.2)).trans (h.1 j a c), Nat.le_trans h.2 hb.size⟩
/-- What the inner loop has taken: from the index k on each share is one that may be taken; before it nothing. -/
def TookTo (L : List Lot) (day : Int) (t : List Int) (k : Nat) : Prop := t.length = L.length ∧ (∀ j x, k ≤ j → L[j]? = some x → ∃ u, t[j]? = some u ∧ 0 ≤ u ∧ u ≤ usab x day) ∧ ∀ j, j < k → j < L.length → t[j]? = some 0
theorem TookTo.start (L : List Lot) (day : Int) : TookTo L day (tab L.length (fun _ => 0)) L.length :=
  ⟨tab_len _ _, fun j x hj hx => absurd (List.getElem?_eq_some_iff.1 hx).1 (by omega), fun j _ hj => tab_at hj⟩
theorem TookTo.skip {L : List Lot} {day : Int} {t : List Int} {k : Nat} {x : Lot} (h : TookTo L day t (k + 1)) (hx : L[k]? = some x) (hu : 0 ≤ usab x day) : TookTo L day t k :=
  ⟨h.1, fun j y hj hy => by
    by_cases e : j = k
    · subst e
      rw [hx] at hy
      obtain rfl := Option.some.inj hy
      exact ⟨0, h.2.2 j (by omega) (List.getElem?_eq_some_iff.1 hx).1, Int.le_refl _, hu⟩
    · exact h.2.1 j y (by omega) hy, fun j hj => h.2.2 j (by omega)⟩
theorem TookTo.take {L : List Lot} {day : Int} {t : List Int} {k : Nat} {x : Lot} {v : Int} (h : TookTo L day t (k + 1)) (hx : L[k]? = some x) (h0 : 0 ≤ v) (h1 : v ≤ usab x day) : TookTo L day (t.set k v) k := by
  have hk : k < L.length := (List.getElem?_eq_some_iff.1 hx).1
  refine ⟨by rw [List.length_set, h.1], fun j y hj hy => ?_, fun j hj hl => by rw [List.getElem?_set_ne (by omega)]; exact h.2.2 j (by omega) hl⟩
  by_cases e : j = k
  · subst e
    rw [hx] at hy
    obtain rfl := Option.some.inj hy
    exact ⟨v, List.getElem?_set_self (by rw [h.1]; exact hk), h0, h1⟩
  · rw [List.getElem?_set_ne (by omega)]
    exact h.2.1 j y (by omega) hy
theorem TookTo.done {L : List Lot} {day : Int} {t : List Int} (hL : lotsOk L = true) (h : TookTo L day t 0) : takeOkL L day t = true := by
  unfold takeOkL
  rw [hL, decide_eq_true h.1, takeGo_of L t (fun k x u hx hu => by
    obtain ⟨v, hv, a, b⟩ := h.2.1 k x (Nat.zero_le _) hx
    rw [hu] at hv
    obtain rfl := Option.some.inj hv
    exact ⟨a, b⟩)]
  rfl
theorem TookTo.rng {L : List Lot} {day : Int} {t : List Int} (hL : lotsOk L = true) (h : TookTo L day t 0) : t.length ≤ 6 ∧ ∀ x ∈ t, 0 ≤ x ∧ x ≤ 9 := by
  have hk := TookTo.done hL h
  obtain ⟨h1, h2, h3⟩ := takeOkL_parts hk
  exact ⟨by have := lotsOk_len hL; omega, takeGo_all h1 h2 h3⟩

theorem keep_rowU {W w' : World} {lo lo' : Nat} {e : TypeId} {size n : Nat} {v vt : Value} {xs : List Value} {rows : List (List Int)} (h : W.ownsRow lo e size v n xs) (ht : TabSl W lo' vt rows) (he : e ≠ 24) (hg : W.grownBy w' vt.ownBlock) : w'.ownsRow lo e size v n xs := by
  obtain ⟨vs, h1, _⟩ := ht
  exact World.ownsRow.kept h hg (by
    cases e1 : v.ownBlock with
    | none => exact .inl rfl
    | some k => exact .inr (fun e' => ownsRow_apart h h1 he e1 e'.symm))
theorem specTakeDo_atU (A B : Option Addr) (c d n m : Nat) (l : List Lot) (day : Int) (take : List Int) (X : List Lot) (w : World) (hn : Hid (l.length = n)) (hm : Hid (take.length = m)) (hX : Hid (takeDoL l day take = X)) (hok : Hid (takeOkL l day take = true)) (hA : LotsAt w A l) (hl : n ≤ 1048576) (hT : IntsAt w B take) (ht : m ≤ 1048576) :
    Calls Tryd.prog 19 #[.slice A n c, .int .i64 day, .slice B m d] w fun e w' => ∃ (A' : Option Addr) (k c' : Nat), e = .returned (.tuple #[.slice A' k c', .bool true]) ∧ Hid (X.length = k) ∧ LotSl w' w.heap.size (.slice A' k c') X ∧ Below w.heap.size w w' := by
  have := specTakeDo_any A B c d l day take w hA (by rw [hn.out]; exact hl) hT (by rw [hm.out]; exact ht)
  rw [hX.out, hok.out, hn.out, hm.out] at this
  refine this.mono ?_
  rintro e w' ⟨v, rfl, hv, hb⟩
  obtain ⟨A', c', rfl, hI⟩ := hv.form
  exact ⟨A', X.length, c', rfl, hide rfl, hv, hb⟩

theorem TabSl.capU {w : World} {lo n c : Nat} {A : Option Addr} {rows : List (List Int)} (h : TabSl w lo (.slice A n c) rows) : rows.length ≤ c := by
  obtain ⟨A', c', e, _⟩ := h.form
  obtain ⟨vs, h1, _⟩ := h
  injection e with _ e2 _
  rcases h1.2 with ⟨hv, _⟩ | ⟨g', cap, cur, hv, _, _, h2, _⟩
  · injection hv with _ k2 _
    omega
  · injection hv with _ _ k3
    omega

def DrewUse (w : World) (b : Nat) (e : Ending) (w' : World) : Prop := ∃ (ls : List Lot) (g c : Nat) (xs : List Int) (h c2 : Nat) (rows : List (List Int)) (A : Option Addr) (c3 : Nat), e = .returned (.tuple #[.slice (some ⟨g, 0, none⟩) ls.length c, .slice (some ⟨h, 0, none⟩) xs.length c2, .slice A rows.length c3]) ∧
  LotsAt w' (some ⟨g, 0, none⟩) ls ∧ IntsAt w' (some ⟨h, 0, none⟩) xs ∧ RowsAt w' A rows ∧ ls.length ≤ 6 ∧ xs.length ≤ 7 ∧ rows.length ≤ 7 ∧ RowsIn 10 rows ∧ xs.length ≤ c2 ∧ rows.length ≤ c3 ∧ w.grownBy w' (some b)

set_option maxRecDepth 100000 in
set_option maxHeartbeats 8000000 in
theorem l20Use_any (b n : Nat) (w : World) (hR : Rd w b n) (hn : n ≤ 70000) :
    Calls Tryd.prog 50 #[.pointer (some ⟨b, 0, none⟩)] w (DrewUse w b) := by
  have hblt := hR.lt
  go_enter Tryd.func50, Tryd.ntmps50
  go_wp2_with fail
  refine (l20Lots_any b n 14 _ hR (by omega) (by omega)).mono ?_
  rintro e w1 ⟨ls, g, c, rfl, hS1, hl, hR1, hg1⟩
  have HS1 := hide hS1
  have HG1 := hide hg1
  have hz1 := hg1.size
  clear hS1 hg1 hR
  go_wp2_with fail
  refine (l20Wants_any b _ 14 _ hR1 (by omega) (by omega)).mono ?_
  rintro e w2 ⟨xs, h, c2, rfl, hX2, hx, hR2, hg2⟩
  have HS2 := hide (LotSl.pick HS1.out hblt hg2)
  have HX2 : Hid (IntSl w2 w.heap.size (.slice (some ⟨h, 0, none⟩) xs.length c2) xs) := hide (ownsRow_mono hX2 hz1)
  have HG2 := hide (HG1.out.trans hg2)
  have HR2 := hide hR2
  have hz2 := HG2.out.size
  have hl2 := hR2.lt
  have hxc := (IntSl.cap HX2.out).2.1
  have hhlt : h < w2.heap.size := (IntSl.cap HX2.out).2.2.2.2
  have hglt : g < w2.heap.size := (LotSl.cap HS2.out).2.2.2.2
  have hl1 : ls.length ≤ 1048576 := by omega
  have hx1 : xs.length ≤ 1048576 := by omega
  have HI2 := hide (LotSl.lots HS2.out)
  clear hX2 hg2 hR1 hR2 HS1 HG1
  have HS0 : Hid (LotSl (w2.alloc (.cells #[] 36)) w2.heap.size (.slice (some ⟨w2.heap.size, 0, none⟩) 0 0) []) := hide (World.ownsRow_lit w2 #[] 0 (Nat.le_refl _) (by unfold maxLen; omega) rfl)
  go_wp2_with fail
  go_loopw [7, 8] (fun pv iv wr => ∃ (k L gp cc : Nat) (P : List Lot), k ≤ ls.length ∧ iv = .int .i64 ((k : Int) - 1) ∧ pv = .slice (some ⟨gp, 0, none⟩) L cc ∧ P.length ≤ 7 - k ∧ LotSl wr w2.heap.size (.slice (some ⟨gp, 0, none⟩) L cc) P ∧ Below w2.heap.size w2 wr) (fun _ iv _ => ((intOf iv) + 1).toNat)
  case atStart => exact ⟨ls.length, 0, w2.heap.size, 0, [], Nat.le_refl _, rfl, rfl, Nat.zero_le _, HS0.out, by go_grown⟩
  case round =>
    obtain ⟨k, L, gp, cc, P, hk, rfl, rfl, hPk, hS, hd⟩ := hrel
    have HSP := hide hS
    have hsz := hd.size
    have HLO := hide (World.ownsRow.lt HSP.out)
    clear hS HS0
    by_cases hlt : 0 < k
    · obtain ⟨j, rfl⟩ : ∃ j, k = j + 1 := ⟨k - 1, by omega⟩
      have hjl : j < ls.length := by omega
      obtain ⟨b9, off, hDD, hbl, hc1, hc3⟩ := (HI2.out.below hd) j ls[j] (List.getElem?_eq_getElem hjl)
      injection hDD with hDD
      injection hDD with e1 e2
      subst e1 e2
      rw [Nat.zero_add] at hc1 hc3
      have hkj : ((j + 1 : Nat) : Int) - 1 = j := by omega
      have hy : (0 : Int) ≤ j := by omega
      have hy2 : (j : Int) < ls.length := by omega
      have hPl : P.length ≤ 1048576 := by omega
      generalize ls[j] = xj at *
      rw [hkj]
      clear hkj
      go_wp2_with (at_builtin; refine wpList_wanted (by rfl) (wp_push_lot _ _ (by rfl) w2.heap.size (.slice (some ⟨gp, 0, none⟩) L cc) P (by rfl) (World.ownsRow.alloc HSP.out _) wr.heap.size xj (by rfl) (heap_alloc_new wr _) hPl (by simp; omega) ?_); intro g' cap w5 hown hgrow; have HOW := hide hown; have HD5 : Hid (Below w2.heap.size w2 w5) := hide ((show Below w2.heap.size w2 (wr.alloc (.cells #[.int .i64 xj.many, .int .i64 xj.last] 36)) from by go_grown).grown hgrow (by simp; omega) (fun k hk => (HLO.out k hk).1)); clear hown hgrow)
      go_roundw
      case rel => exact ⟨j, P.length + 1, g', cap, _, by omega, by go_num, rfl, by simp; omega, HOW.out, HD5.out⟩
      case measure => simp [intOf] <;> omega
    · obtain rfl : k = 0 := by omega
      have hz0 : ((0 : Nat) : Int) - 1 = -1 := rfl
      have HS3 := hide (LotSl.below HS2.out hd)
      have HX3 : Hid (IntSl wr w.heap.size (.slice (some ⟨h, 0, none⟩) xs.length c2) xs) := hide (IntSl.below HX2.out hd)
      have HR3 := hide (rd_belowT HR2.out hd)
      have HG3 := hide (grown_belowT HG2.out hd)
      have HI3 := hide (LotSl.lots HS3.out)
      have HJ3 := hide (IntSl.ints HX3.out)
      have hz3 := HG3.out.size
      rw [hz0]
      clear hz0 HSP HLO HS2 HX2 HR2 HG2 HI2 hd
      go_wp2_with fail
      refine (specUseFirst_any _ _ _ _ _ _ _ HI3.out hl1 HJ3.out hx1).mono ?_
      rintro e w4 ⟨v, rfl, hv, hB4⟩
      have HU4 := hide (TabSl.mono hv hsz)
      obtain ⟨A4, k4, hve, -⟩ := hv.form
      subst hve
      have HS4 := hide (LotSl.below HS3.out hB4)
      have HX4 : Hid (IntSl w4 w.heap.size (.slice (some ⟨h, 0, none⟩) xs.length c2) xs) := hide (IntSl.below HX3.out hB4)
      have HR4 := hide ((rd_belowT HR3.out hB4).mono (by omega : n + 20 + 20 ≤ n + 40))
      have HG4 := hide (grown_belowT HG3.out hB4)
      have HUL : Hid ((useFirstL ls xs).length ≤ 7 ∧ RowsIn 9 (useFirstL ls xs)) := hide ⟨Nat.le_trans useFirstL_len (by omega), fun x hx => ⟨Nat.le_trans (useFirstL_rows x hx).1 (by omega), (useFirstL_rows x hx).2⟩⟩
      generalize useFirstL ls xs = U at *
      have hzB4 := hB4.size
      clear hv hB4 HS3 HX3 HR3 HG3 HI3 HJ3
      have hz24 : w2.heap.size ≤ w4.heap.size := Nat.le_trans hsz hzB4
      go_upto_region 9 with fail
      go_cut [49] (fun v wx => ∃ β : Bool, v = .bool β ∧ Hid (β = true → lotsOk ls = true ∧ wantsOk xs = true) ∧ LotSl wx w.heap.size (.slice (some ⟨g, 0, none⟩) ls.length c) ls ∧ IntSl wx w.heap.size (.slice (some ⟨h, 0, none⟩) xs.length c2) xs ∧ TabSl wx w2.heap.size (.slice A4 U.length k4) U ∧ Rd wx b (n + 41) ∧ w.grownBy wx (some b) ∧ w2.heap.size ≤ wx.heap.size)
      case first =>
        go_wp2_with fail
        refine (pick_any b _ 2 _ HR4.out (by omega) (by omega)).mono ?_
        rintro e w5 ⟨q, rfl, hq0, hq1, hR5, hg5⟩
        have HS5 := hide (LotSl.pick HS4.out hblt hg5)
        have HX5 := hide (IntSl.pick HX4.out hblt hg5)
        have HU5 := hide (TabSl.pick HU4.out hl2 hg5)
        have HG5 := hide (HG4.out.trans hg5)
        have HR5 := hide hR5
        have hz25 := Nat.le_trans hz24 hg5.size
        clear hg5 hR5 HS4 HX4 HU4 HG4 HR4
        by_cases hqz : q = 0
        · have hqb : (q == 0) = true := by rw [hqz]; rfl
          have HI5 := hide (LotSl.lots HS5.out)
          obtain ⟨lv, HLV⟩ : ∃ lv, Hid (lotsOk ls = lv) := ⟨_, hide rfl⟩
          clear hqz
          go_wp2_with fail
          refine (specLotsValid_any _ _ _ _ HI5.out hl1).mono ?_
          rintro e w6 ⟨rfl, hB6⟩
          rw [HLV.out]
          have HS6 := hide (LotSl.below HS5.out hB6)
          have HX6 : Hid (IntSl w6 w.heap.size (.slice (some ⟨h, 0, none⟩) xs.length c2) xs) := hide (IntSl.below HX5.out hB6)
          have HU6 := hide (TabSl.below HU5.out hB6)
          have HG6 := hide (grown_belowT HG5.out hB6)
          have HR6 := hide (rd_belowT HR5.out hB6)
          have hzB6 := hB6.size
          clear hB6 HS5 HX5 HU5 HG5 HR5 HI5
          cases lv with
          | false =>
            go_wp2_with fail
            go_meet
            exact ⟨false, rfl, hide (fun h => by cases h), HS6.out, HX6.out, HU6.out, HR6.out, HG6.out, Nat.le_trans hz25 hzB6⟩
          | true =>
            have HJ6 := hide (IntSl.ints HX6.out)
            obtain ⟨xv, HXV⟩ : ∃ xv, Hid (wantsOk xs = xv) := ⟨_, hide rfl⟩
            go_wp2_with fail
            refine (specWantsValid_any _ _ _ _ HJ6.out hx1).mono ?_
            rintro e w7 ⟨rfl, hB7⟩
            rw [HXV.out]
            have HS7 := hide (LotSl.below HS6.out hB7)
            have HX7 : Hid (IntSl w7 w.heap.size (.slice (some ⟨h, 0, none⟩) xs.length c2) xs) := hide (IntSl.below HX6.out hB7)
            have HU7 := hide (TabSl.below HU6.out hB7)
            have HG7 := hide (grown_belowT HG6.out hB7)
            have HR7 := hide (rd_belowT HR6.out hB7)
            go_wp2_with fail
            go_meet
            exact ⟨xv, rfl, hide (fun h => ⟨HLV.out, by rw [HXV.out, h]⟩), HS7.out, HX7.out, HU7.out, HR7.out, HG7.out, Nat.le_trans hz25 (Nat.le_trans hzB6 hB7.size)⟩
        · have hqb : (q == 0) = false := beq_false_of_ne hqz
          go_wp2_with fail
          go_meet
          exact ⟨false, rfl, hide (fun h => by cases h), HS5.out, HX5.out, HU5.out, HR5.out, HG5.out, hz25⟩
      case rest =>
      obtain ⟨β, rfl, HB, hS5, hX5, hU5, hR5, hg5, hz2c⟩ := hcut
      have HS5 := hide hS5
      have HX5 := hide hX5
      have HU5 := hide hU5
      have HR5 := hide hR5
      have HG5 := hide hg5
      have hl5 := hR5.lt
      have hz5 := hg5.size
      clear hS5 hX5 hU5 hR5 hg5 HS4 HX4 HU4 HG4 HR4
      go_upto_if 49 with (fail)
      go_cut [9] (fun v wx => ∃ (rows : List (List Int)) (A : Option Addr) (m c3 : Nat), v = .slice A m c3 ∧ Hid (rows.length = m ∧ RowsIn 9 rows) ∧ m ≤ 7 ∧ TabSl wx w2.heap.size (.slice A m c3) rows ∧ LotSl wx w.heap.size (.slice (some ⟨g, 0, none⟩) ls.length c) ls ∧ IntSl wx w.heap.size (.slice (some ⟨h, 0, none⟩) xs.length c2) xs ∧ Rd wx b (n + 50) ∧ w.grownBy wx (some b))
      case first =>
        cases β with
        | false =>
          go_wp2_with fail
          go_meet
          exact ⟨U, A4, U.length, k4, rfl, hide ⟨rfl, HUL.out.2⟩, HUL.out.1, HU5.out, HS5.out, HX5.out, HR5.out.mono (by omega), HG5.out⟩
        | true =>
          have HLV : Hid (lotsOk ls = true) := hide (HB.out rfl).1
          have HWV : Hid (wantsOk xs = true) := hide (HB.out rfl).2
          have hbig := hl5
          have HN5 := hide (LotSl.lots HS5.out)
          have HT0 : Hid (TabSl (wc.alloc (.cells #[] 24)) w2.heap.size (.slice (some ⟨wc.heap.size, 0, none⟩) 0 0) []) := hide (TabSl.mono (TabSl.nil0 wc) hz2c)
          go_wp2_with fail
          go_loopw [9, 10, 11] (fun uv nv iv wr => ∃ (k m cu nn cn : Nat) (Au An : Option Addr) (rows : List (List Int)) (L : List Lot), k ≤ xs.length ∧ iv = .int .i64 k ∧ uv = .slice Au m cu ∧ nv = .slice An nn cn ∧ m ≤ k ∧ Hid (rows.length = m ∧ RowsIn 9 rows ∧ L.length = nn ∧ nn = ls.length ∧ lotsOk L = true) ∧ TabSl wr w2.heap.size (.slice Au m cu) rows ∧ LotSl wr w.heap.size (.slice An nn cn) L ∧ LotSl wr w.heap.size (.slice (some ⟨g, 0, none⟩) ls.length c) ls ∧ IntSl wr w.heap.size (.slice (some ⟨h, 0, none⟩) xs.length c2) xs ∧ Rd wr b (n + 41 + k) ∧ w.grownBy wr (some b) ∧ w2.heap.size ≤ wr.heap.size) (fun _ _ iv _ => xs.length - (intOf iv).toNat)
          case atStart => exact ⟨0, 0, 0, ls.length, c, some ⟨_, 0, none⟩, some ⟨g, 0, none⟩, [], ls, Nat.zero_le _, rfl, rfl, rfl, Nat.le_refl _, hide ⟨rfl, fun x hx => by (cases hx), rfl, rfl, HLV.out⟩, HT0.out, World.ownsRow.alloc HS5.out _, World.ownsRow.alloc HS5.out _, World.ownsRow.alloc HX5.out _, (HR5.out.kept (fun j hj => heap_alloc_old _ _ (by omega))).mono (by omega), HG5.out.trans (World.grownBy_alloc _ _ _), by simp; omega⟩
          case round =>
            obtain ⟨k, m, cu, nn, cn, Au, An, rows, L, hk, rfl, rfl, rfl, hmk, HF, hU, hN, hS, hX, hRr, hgr, hz2r⟩ := hrel
            have HUr := hide hU
            have HNr := hide hN
            have HSr := hide hS
            have HXr := hide hX
            have HRr := hide hRr
            have HGr := hide hgr
            have hzr := hgr.size
            have hlr := hRr.lt
            clear hU hN hS hX hRr hgr HS5 HX5 HU5 HR5 HG5 HT0 HN5
            by_cases hlt : k < xs.length
            · obtain ⟨W2, hW2⟩ : ∃ W2, W2 = wr := ⟨_, rfl⟩
              subst hW2
              obtain ⟨q, hq⟩ : ∃ q, xs[k]? = some q := ⟨_, List.getElem?_eq_getElem hlt⟩
              have hqr := (wantsOk_at HWV.out).2 q (List.mem_of_getElem? hq)
              obtain ⟨hq0, hq50⟩ := hqr
              have HLn : Hid (L.length = ls.length) := hide (by rw [HF.out.2.2.1, HF.out.2.2.2.1])
              have HLN : Hid (L.length = nn) := hide HF.out.2.2.1
              have HLO : Hid (lotsOk L = true) := hide HF.out.2.2.2.2
              have hn1 : nn ≤ ls.length := by rw [HF.out.2.2.2.1]; exact Nat.le_refl _
              have hn2 : ls.length ≤ nn := by rw [HF.out.2.2.2.1]; exact Nat.le_refl _
              have hrl : rows.length ≤ 1048576 := by rw [HF.out.1]; omega
              have hrm : rows.length ≤ k := by rw [HF.out.1]; exact hmk
              have hk0 : (0 : Int) ≤ k := by omega
              have hk1 : (k : Int) < xs.length := by omega
              have hmk2 := make_ints ls.length hl1
              have hcq : (W2.alloc (.cells (madeCells #[.int .i64 0] ls.length) 3)).cell? ⟨h, k, none⟩ = some (.int .i64 q) := IntSl.cellAt (World.ownsRow.alloc HXr.out _) hq
              have HZ4 : Hid (IntSl (W2.alloc (.cells (madeCells #[.int .i64 0] ls.length) 3)) W2.heap.size (.slice (some ⟨W2.heap.size, 0, none⟩) ls.length ls.length) (tab ls.length (fun _ => 0))) := hide (zeros_sl ls.length (Nat.le_refl _) hl1)
              have HR4 : Hid (Rd (W2.alloc (.cells (madeCells #[.int .i64 0] ls.length) 3)) b (n + 41 + k)) := hide (HRr.out.kept (fun j hj => heap_alloc_old W2 _ (by omega)))
              have HK4 : Hid (Kept w.heap.size W2 (W2.alloc (.cells (madeCells #[.int .i64 0] ls.length) 3))) := hide ((Kept.refl w.heap.size W2).alloc _)
              have HG4 := hide (HGr.out.trans (World.grownBy_alloc W2 (.cells (madeCells #[.int .i64 0] ls.length) 3) _))
              clear hq
              go_wp2_with fail
              refine (pick_any b _ (q + 1) _ HR4.out (by omega) (by omega)).mono ?_
              rintro e w5 ⟨p, rfl, hp0, hp1, hR5, hg5⟩
              have HZ5 := hide (IntSl.pick HZ4.out (by omega) hg5)
              have HK5 := hide (HK4.out.pick hblt hg5)
              have HG5 := hide (HG4.out.trans hg5)
              have HR5 := hide hR5
              clear hg5 hR5 HZ4 HK4 HG4 HR4 hmk2 hcq
              go_wp2_with fail
              go_loopw [13, 14] (fun lv iv wi => ∃ (j : Nat) (z : Int) (t : List Int), j ≤ ls.length ∧ iv = .int .i64 ((j : Int) - 1) ∧ lv = .int .i64 z ∧ 0 ≤ z ∧ z ≤ 50 ∧ Hid (TookTo L k t j) ∧ IntSl wi W2.heap.size (.slice (some ⟨W2.heap.size, 0, none⟩) ls.length ls.length) t ∧ Kept w.heap.size W2 wi ∧ Rd wi b (n + 42 + k) ∧ w.grownBy wi (some b)) (fun _ iv _ => ((intOf iv) + 1).toNat)
              case atStart => exact ⟨ls.length, p, tab ls.length (fun _ => 0), Nat.le_refl _, rfl, rfl, hp0, by omega, hide (by rw [← HLn.out]; exact TookTo.start L k), HZ5.out, HK5.out, HR5.out.mono (by omega), HG5.out⟩
              case round =>
                obtain ⟨j, z, t, hj, rfl, rfl, hz0, hz50, HTT, hT, hKp, hRi, hGi⟩ := hrel
                have HTi := hide hT
                have HKi := hide hKp
                have HRi := hide hRi
                have HGi := hide hGi
                have HNi : Hid (LotSl wr w.heap.size (.slice An nn cn) L) := hide (ownsRow_from HNr.out hKp.1)
                have hli := hRi.lt
                have hszi := hKp.2
                have hblW := (World.ownsRow.lt HTi.out W2.heap.size rfl).2
                have hbW := HRr.out.lt
                clear hT hKp hRi hGi HZ5 HK5 HR5 HG5
                by_cases hjp : 0 < j
                · obtain ⟨j', rfl⟩ : ∃ j', j = j' + 1 := ⟨j - 1, by omega⟩
                  obtain ⟨x, hx⟩ : ∃ x, L[j']? = some x := ⟨_, List.getElem?_eq_getElem (by rw [HLn.out]; omega)⟩
                  have hxr := lotsOk_at HLO.out (List.mem_of_getElem? hx)
                  obtain ⟨bn, offn, hDD, hbl, hcm, hcl⟩ := (LotSl.lots HNi.out) j' x hx
                  subst hDD
                  obtain ⟨xm, xl⟩ := x
                  obtain ⟨hxm0, hxm9, hxl0, hxl5⟩ := hxr
                  have hxm0 : 0 ≤ xm := hxm0
                  have hxm9 : xm ≤ 9 := hxm9
                  have hcm : wr.cell? ⟨bn, offn + j' * 2, none⟩ = some (.int .i64 xm) := hcm
                  have hcl : wr.cell? ⟨bn, offn + j' * 2 + 1, none⟩ = some (.int .i64 xl) := hcl
                  have HX := hide hx
                  have ht0 : t[j']? = some 0 := HTT.out.2.2 j' (by omega) (by rw [HLn.out]; omega)
                  have hct := IntSl.cellAt HTi.out ht0
                  have hft := IntSl.frozenAt HTi.out j'
                  have hkj : ((j' + 1 : Nat) : Int) - 1 = j' := by omega
                  have hj0 : (0 : Int) ≤ j' := by omega
                  have hj1 : (j' : Int) < ls.length := by omega
                  have hj2 : (j' : Int) < nn := by omega
                  have htl : j' < t.length := by rw [HTT.out.1, HLn.out]; omega
                  rw [hkj]
                  clear hkj hx ht0
                  by_cases hge : (k : Int) ≤ xl
                  · obtain ⟨v, hv⟩ : ∃ v, min xm z = v := ⟨_, rfl⟩
                    have hv0 : 0 ≤ v := by omega
                    have hvz : v ≤ z := by omega
                    have hvm : v ≤ xm := by omega
                    have hu : usab ⟨xm, xl⟩ (k : Int) = xm := by unfold usab; rw [if_neg (by show ¬ xl < (k : Int); omega)]
                    have HTK : Hid (TookTo L k (t.set j' v) j') := hide (HTT.out.take HX.out hv0 (by rw [hu]; exact hvm))
                    have HT2 := hide (IntSl.store HTi.out j' v)
                    have HGS := hide (IntSl.grownSet HTi.out j' v)
                    have hcv := IntSl.cellAt HT2.out (List.getElem?_set_self htl)
                    have HK2 := hide (HKi.out.store (Nat.le_refl _) HGS.out)
                    have HR2 := hide (rd_grown HRi.out HGS.out (fun k hk => by injection hk with hk; omega))
                    have HG2 := hide (grown_row HGi.out HGS.out (fun k hk => by injection hk with hk; omega))
                    clear hu
                    go_wp2_with fail
                    go_roundw
                    case rel => first | exact ⟨j', z - v, t.set j' v, by omega, by go_num, rfl, by omega, by omega, HTK, HT2.out, HK2.out, HR2.out, HG2.out⟩ | exact ⟨⟨j', z - v, t.set j' v, by omega, by go_num, rfl, by omega, by omega, HTK, HT2.out, HK2.out, HR2.out, HG2.out⟩, rfl⟩ | ((repeat apply Exists.intro); exact ⟨⟨j', z - v, t.set j' v, by omega, by go_num, rfl, by omega, by omega, HTK, HT2.out, HK2.out, HR2.out, HG2.out⟩, rfl⟩)
                    case measure => simp [intOf] <;> omega
                  · have hu : usab ⟨xm, xl⟩ (k : Int) = 0 := by unfold usab; rw [if_pos (by show xl < (k : Int); omega)]
                    have HTK : Hid (TookTo L k t j') := hide (HTT.out.skip HX.out (by rw [hu]; exact Int.le_refl _))
                    clear hu
                    go_wp2_with fail
                    go_roundw
                    case rel => first | exact ⟨j', z, t, by omega, by go_num, rfl, hz0, hz50, HTK, HTi.out, HKi.out, HRi.out, HGi.out⟩ | exact ⟨⟨j', z, t, by omega, by go_num, rfl, hz0, hz50, HTK, HTi.out, HKi.out, HRi.out, HGi.out⟩, rfl⟩ | ((repeat apply Exists.intro); exact ⟨⟨j', z, t, by omega, by go_num, rfl, hz0, hz50, HTK, HTi.out, HKi.out, HRi.out, HGi.out⟩, rfl⟩)
                    case measure => simp [intOf] <;> omega
                · obtain rfl : j = 0 := by omega
                  have hz00 : ((0 : Nat) : Int) - 1 = -1 := rfl
                  have HOK : Hid (takeOkL L k t = true) := hide (TookTo.done HLO.out HTT.out)
                  have HTR := hide (TookTo.rng HLO.out HTT.out)
                  have HTn : Hid (t.length = ls.length) := hide (by rw [HTT.out.1, HLn.out])
                  obtain ⟨X, HX⟩ : ∃ X, Hid (takeDoL L k t = X) := ⟨_, hide rfl⟩
                  have HXO : Hid (lotsOk X = true ∧ X.length = ls.length) := hide ⟨by rw [← HX.out]; exact takeDo_ok HOK.out, by
                    rw [← HX.out, takeDo_is HOK.out, takeDoGo_len _ _ (takeOkL_parts HOK.out).2.1, HLn.out]⟩
                  have HNL := hide (LotSl.lots HNi.out)
                  have HTL := hide (IntSl.ints HTi.out)
                  rw [hz00]
                  clear hz00
                  go_wp2_with fail
                  refine (specTakeDo_atU _ _ _ _ _ _ L _ t X _ HLN HTn HX HOK HNL.out (by omega) HTL.out (by omega)).mono ?_
                  rintro e w9 ⟨A9, k9, c9, rfl, HXk, hX9, hB9⟩
                  have HK9 := hide (HKi.out.below hB9)
                  have HT9 : Hid (IntSl w9 W2.heap.size (.slice (some ⟨W2.heap.size, 0, none⟩) ls.length ls.length) t) := hide (IntSl.below HTi.out hB9)
                  have HR9 := hide (rd_belowT HRi.out hB9)
                  have HG9 := hide (grown_belowT HGi.out hB9)
                  have HN9 : Hid (LotSl w9 w.heap.size (.slice A9 k9 c9) X) := hide (ownsRow_mono hX9 HGi.out.size)
                  have HKA : Hid (Kept w.heap.size W2 (w9.alloc (.cells #[.slice (some ⟨W2.heap.size, 0, none⟩) ls.length ls.length] 24))) := hide (HK9.out.alloc _)
                  have HTA : Hid (TabSl (w9.alloc (.cells #[.slice (some ⟨W2.heap.size, 0, none⟩) ls.length ls.length] 24)) w2.heap.size (.slice Au m cu) rows) := hide (HUr.out.kept (fun j a b => HKA.out.1 j (by omega) b))
                  have HSA : Hid (LotSl (w9.alloc (.cells #[.slice (some ⟨W2.heap.size, 0, none⟩) ls.length ls.length] 24)) w.heap.size (.slice (some ⟨g, 0, none⟩) ls.length c) ls) := hide (ownsRow_from HSr.out HKA.out.1)
                  have HXA : Hid (IntSl (w9.alloc (.cells #[.slice (some ⟨W2.heap.size, 0, none⟩) ls.length ls.length] 24)) w.heap.size (.slice (some ⟨h, 0, none⟩) xs.length c2) xs) := hide (ownsRow_from HXr.out HKA.out.1)
                  clear hX9 hB9
                  go_wp2_with (at_builtin; refine wpList_wanted (by rfl) (wp_push_rowH _ _ (by rfl) w2.heap.size (.slice Au m cu) rows (by rfl) HUr.out (fun j a b => HKA.out.1 j (by omega) b) HKA.out.2 hz2r w9.heap.size (.slice (some ⟨W2.heap.size, 0, none⟩) ls.length ls.length) t (World.ownsRow.alloc HT9.out _) (by rfl) (heap_alloc_new w9 _) hrl ?_); intro g10 cap10 w10 hown hgrow; have HU10 := hide hown; have HN10 := hide (keep_rowU (World.ownsRow.alloc HN9.out _) HTA.out (by decide) hgrow); have HS10 := hide (keep_rowU HSA.out HTA.out (by decide) hgrow); have HX10 := hide (keep_rowU HXA.out HTA.out (by decide) hgrow); have HR10 := hide (rd_grown (HR9.out.kept (fun j hj => heap_alloc_old w9 _ (by have := HR9.out.lt; omega))) hgrow (fun k hk => by have := (TabSl.own HTA.out k hk).1; omega)); have HG10 := hide (grown_row (HG9.out.trans (World.grownBy_alloc w9 _ _)) hgrow (fun k hk => by have := (TabSl.own HTA.out k hk).1; omega)); have hz10 : w2.heap.size ≤ w10.heap.size := (by have a := hgrow.size; have b := HKA.out.2; omega); clear hown hgrow)
                  have HFN : Hid ((rows ++ [t]).length = rows.length + 1 ∧ RowsIn 9 (rows ++ [t]) ∧ X.length = k9 ∧ k9 = ls.length ∧ lotsOk X = true) := hide ⟨by simp, fun y hy => by
                    rcases List.mem_append.1 hy with hy | hy
                    · exact HF.out.2.1 y hy
                    · simp only [List.mem_cons, List.not_mem_nil, or_false] at hy
                      subst hy
                      exact HTR.out, HXk.out, by rw [← HXk.out]; exact HXO.out.2, HXO.out.1⟩
                  go_roundw
                  case rel => first | exact ⟨k + 1, rows.length + 1, cap10, k9, c9, some ⟨g10, 0, none⟩, A9, rows ++ [t], X, hlt, by go_num, rfl, rfl, by omega, HFN, HU10.out, HN10.out, HS10.out, HX10.out, HR10.out.mono (by omega), HG10.out, hz10⟩ | exact ⟨⟨k + 1, rows.length + 1, cap10, k9, c9, some ⟨g10, 0, none⟩, A9, rows ++ [t], X, hlt, by go_num, rfl, rfl, by omega, HFN, HU10.out, HN10.out, HS10.out, HX10.out, HR10.out.mono (by omega), HG10.out, hz10⟩, rfl⟩ | ((repeat apply Exists.intro); exact ⟨⟨k + 1, rows.length + 1, cap10, k9, c9, some ⟨g10, 0, none⟩, A9, rows ++ [t], X, hlt, by go_num, rfl, rfl, by omega, HFN, HU10.out, HN10.out, HS10.out, HX10.out, HR10.out.mono (by omega), HG10.out, hz10⟩, rfl⟩)
                  case measure => simp [intOf] <;> omega
            · have hk1 : ¬ (k : Int) < xs.length := by omega
              go_wp2_with fail
              go_meet
              exact ⟨rows, Au, m, cu, rfl, hide ⟨HF.out.1, HF.out.2.1⟩, by omega, HUr.out, HSr.out, HXr.out, HRr.out.mono (by omega), HGr.out⟩
      case rest =>
      obtain ⟨rows, A6, m, c6, rfl, HRW, hm7, hU6, hS6, hX6, hR6, hg6⟩ := hcut
      have HU6 := hide hU6
      have HS6 := hide hS6
      have HX6 := hide hX6
      have HR6 := hide hR6
      have HG6 := hide hg6
      have hl6 := hR6.lt
      have hz6 := hg6.size
      clear hU6 hS6 hX6 hR6 hg6 HS5 HX5 HU5 HR5 HG5 HUL HB
      go_upto_region 26 with fail
      go_cut [123] (fun v wx => ∃ β : Bool, v = .bool β ∧ Hid (β = true → ∃ x r, rows[0]? = some (x :: r)) ∧ TabSl wx w2.heap.size (.slice A6 m c6) rows ∧ LotSl wx w.heap.size (.slice (some ⟨g, 0, none⟩) ls.length c) ls ∧ IntSl wx w.heap.size (.slice (some ⟨h, 0, none⟩) xs.length c2) xs ∧ w.grownBy wx (some b))
      case first =>
        go_wp2_with fail
        refine (odd_any b _ 9 _ HR6.out (by omega) (by omega)).mono ?_
        rintro e w7 ⟨γ, rfl, hR7, hg7⟩
        have HU7 := hide (TabSl.pick HU6.out hl2 hg7)
        have HS7 := hide (LotSl.pick HS6.out hblt hg7)
        have HX7 := hide (IntSl.pick HX6.out hblt hg7)
        have HG7 := hide (HG6.out.trans hg7)
        clear hg7 hR7 HU6 HS6 HX6 HR6 HG6
        cases γ with
        | false =>
          go_wp2_with fail
          go_meet
          exact ⟨false, rfl, hide (fun h => by cases h), HU7.out, HS7.out, HX7.out, HG7.out⟩
        | true =>
          by_cases hm0 : 0 < m
          · have hmz : (0 : Int) < m := by omega
            obtain ⟨row, hrow⟩ : ∃ row, rows[0]? = some row := ⟨_, List.getElem?_eq_getElem (by rw [HRW.out.1]; exact hm0)⟩
            obtain ⟨b9, off9, A9, c9, hDD, hbl9, hc9, -⟩ := (TabSl.rows HU7.out) 0 row hrow
            subst hDD
            rw [Nat.add_zero] at hc9
            have HROW := hide hrow
            have hrl : row.length ≤ 6 := (HRW.out.2 row (List.mem_of_getElem? hrow)).1
            by_cases hr0 : 0 < row.length
            · have hrz : (0 : Int) < row.length := by omega
              clear hrow
              go_wp2_with fail
              go_meet
              refine ⟨true, rfl, hide (fun _ => ?_), HU7.out, HS7.out, HX7.out, HG7.out⟩
              cases row with
              | nil => simp at hr0
              | cons x r => exact ⟨x, r, HROW.out⟩
            · have hrz : ¬ (0 : Int) < row.length := by omega
              clear hrow
              go_wp2_with fail
              go_meet
              exact ⟨false, rfl, hide (fun h => by cases h), HU7.out, HS7.out, HX7.out, HG7.out⟩
          · have hmz : ¬ (0 : Int) < m := by omega
            go_wp2_with fail
            go_meet
            exact ⟨false, rfl, hide (fun h => by cases h), HU7.out, HS7.out, HX7.out, HG7.out⟩
      case rest =>
      obtain ⟨β, rfl, HB, hU7, hS7, hX7, hg7⟩ := hcut
      have HU7 := hide hU7
      have HS7 := hide hS7
      have HX7 := hide hX7
      have HG7 := hide hg7
      clear hU7 hS7 hX7 hg7 HU6 HS6 HX6 HR6 HG6
      have HLI := hide (LotSl.lots HS7.out)
      have HXI := hide (IntSl.ints HX7.out)
      cases β with
      | false =>
        have HRO := hide (TabSl.rows HU7.out)
        have HRN : Hid (rows.length = m) := hide HRW.out.1
        go_wp2_with fail
        refine bodyPost_ret (results_tmp3 rfl _ _ _) rfl ⟨ls, g, c, xs, h, c2, rows, A6, c6, by rw [HRN.out]; rfl, HLI.out, HXI.out, HRO.out, hl, hx, by rw [HRN.out]; exact hm7, fun x hx => ⟨(HRW.out.2 x hx).1, fun t ht => by have := (HRW.out.2 x hx).2 t ht; omega⟩, hxc, TabSl.capU HU7.out, HG7.out⟩
      | true =>
        obtain ⟨x, r, h0⟩ := HB.out rfl
        rcases TabSl.two HU7.out with ⟨e, hn⟩ | ⟨g6, c9, e⟩
        · rw [hn] at h0; simp at h0
        · injection e with e1 e2 e3
          subst e1
          have hxr := (HRW.out.2 _ (List.mem_of_getElem? h0)).2 x (by simp)
          obtain ⟨hx0, hx9⟩ := hxr
          have hrow6 := (HRW.out.2 _ (List.mem_of_getElem? h0)).1
          obtain ⟨gr, cr, hcT, hcX, hfX, hglo, hst⟩ := TabSl.first HU7.out h0
          obtain ⟨hRO, hGS⟩ := hst (x + 1)
          have HRO := hide hRO
          have HS8 := hide (LotSl.lots (LotSl.row HS7.out hGS (.inr (by intro e; have e : some g = some gr := e; injection e with e; omega))))
          have HX8 := hide (IntSl.ints (World.ownsRow.kept HX7.out hGS (.inr (by intro e; have e : some h = some gr := e; injection e with e; omega))))
          have HG8 := hide (grown_row HG7.out hGS (fun k hk => by injection hk with hk; omega))
          have HRN : Hid ((rows.set 0 ((x + 1) :: r)).length = m) := hide (by rw [List.length_set, HRW.out.1])
          have HRI : Hid (RowsIn 10 (rows.set 0 ((x + 1) :: r))) := hide (fun z hz => by
            rcases List.mem_or_eq_of_mem_set hz with hz | rfl
            · exact ⟨(HRW.out.2 z hz).1, fun t ht => by have := (HRW.out.2 z hz).2 t ht; omega⟩
            · refine ⟨by simpa using hrow6, fun t ht => ?_⟩
              rcases List.mem_cons.1 ht with rfl | ht
              · omega
              · have := (HRW.out.2 _ (List.mem_of_getElem? h0)).2 t (by simp [ht]); omega)
          have hm0 : (0 : Int) < m := by rw [← HRW.out.1]; have := (List.getElem?_eq_some_iff.1 h0).1; omega
          obtain ⟨rl, hrl⟩ : ∃ rl, r.length + 1 = rl := ⟨_, rfl⟩
          rw [hrl] at hcT
          have hr0 : (0 : Int) < rl := by omega
          have hmN : 0 < m := by omega
          have hrN : 0 < rl := by omega
          have hmM : ¬ m = 0 := by omega
          have hrM : ¬ rl = 0 := by omega
          clear hrl
          clear e2 e3 h0 hRO hGS hst
          go_wp2_with fail
          refine still_tail_drew 10 (by kernel_rfl) (by kernel_rfl) ?_
          simp only [List.take_succ_cons, List.take_zero, List.drop_succ_cons, List.drop_zero]
          repeat still_step
          refine wpStill_nil ?_
          go_wp2_with fail
          refine bodyPost_ret (results_tmp3 rfl _ _ _) rfl ⟨ls, g, c, xs, h, c2, rows.set 0 ((x + 1) :: r), some ⟨g6, 0, none⟩, c6, by rw [HRN.out]; rfl, HS8.out, HX8.out, HRO.out, hl, hx, by rw [HRN.out]; exact hm7, HRI.out, hxc, by rw [List.length_set]; exact TabSl.capU HU7.out, ⟨HG8.out.os, HG8.out.tape, HG8.out.output, HG8.out.size, HG8.out.block⟩⟩
end Go.Proofs.YtndcanllkmfahaaDoor
