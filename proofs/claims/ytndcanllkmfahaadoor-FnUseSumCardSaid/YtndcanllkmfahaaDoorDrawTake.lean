/- Contract of the draw of lots, a day and what is taken.
   Conditions: the bounds in each statement. -/
import Derived.Test.YtndcanllkmfahaaDoorDrawBoth
namespace Go.Proofs.YtndcanllkmfahaaDoor
open Go.RowKit Go.ChangeShapes Go.WideShapes Go.ChangeAt Go.Deep

theorem IntSl.two {W : World} {lo : Nat} {v : Value} {l : List Int} (h : IntSl W lo v l) : (v = .slice none 0 0 ∧ l = []) ∨ ∃ g c, v = .slice (some ⟨g, 0, none⟩) l.length c := by
  rcases h.2 with ⟨hv, hn⟩ | ⟨g, cap, cur, hv, _⟩
  · exact .inl ⟨hv, List.eq_nil_of_length_eq_zero hn⟩
  · exact .inr ⟨g, cap, hv⟩
theorem tdiv_19 {p : Int} (h0 : 0 ≤ p) (h1 : p < 20) : ∃ t : Int, p.tdiv 19 = t ∧ 0 ≤ t ∧ t ≤ 1 := by
  refine ⟨_, rfl, ?_⟩
  rw [Int.tdiv_eq_ediv_of_nonneg h0]
  omega
theorem rd_belowT {w w' : World} {b n : Nat} (hR : Rd w b n) (hb : Below w.heap.size w w') : Rd w' b n :=
  hR.kept fun j hj => hb.block j (by have := hR.lt; omega)
theorem grown_belowT {w wr w' : World} {b : Nat} (h : w.grownBy wr (some b)) (hb : Below wr.heap.size wr w') : w.grownBy w' (some b) :=
  ⟨hb.os.trans h.os, hb.tape.trans h.tape, hb.output.trans h.output, Nat.le_trans h.size hb.size, fun j hj hne => (hb.block j (Nat.lt_of_lt_of_le hj h.size)).trans (h.block j hj hne)⟩

theorem lots_apart {w : World} {lo lo' g c n : Nat} {v : Value} {ls : List Lot} {t : List Int} (h : LotSl w lo (.slice (some ⟨g, 0, none⟩) n c) ls) (h' : IntSl w lo' v t) : some g ≠ v.ownBlock := by
  rcases h.2 with ⟨hv, _⟩ | ⟨g1, cap, cur, hv, _, hb, _⟩
  · cases hv
  · injection hv with e1
    injection e1 with e1
    injection e1 with e1
    subst e1
    rcases h'.2 with ⟨hv', _⟩ | ⟨g2, cap2, cur2, hv', _, hb2, _⟩
    · subst hv'
      simp [Value.ownBlock]
    · subst hv'
      intro e
      have e : some g = some g2 := e
      injection e with e
      subst e
      rw [hb] at hb2
      injection hb2 with hb2
      injection hb2 with _ h2
      exact absurd h2 (by decide)

def DrewTake (w : World) (b : Nat) (e : Ending) (w' : World) : Prop := ∃ (ls : List Lot) (g c : Nat) (d : Int) (t : List Int) (A : Option Addr) (c2 : Nat), e = .returned (.tuple #[.slice (some ⟨g, 0, none⟩) ls.length c, .int .i64 d, .slice A t.length c2]) ∧ LotSl w' w.heap.size (.slice (some ⟨g, 0, none⟩) ls.length c) ls ∧ ls.length ≤ 6 ∧ IntSl w' w.heap.size (.slice A t.length c2) t ∧ t.length ≤ 7 ∧ -1 ≤ d ∧ d ≤ 6 ∧ w.grownBy w' (some b)

set_option maxRecDepth 100000 in
set_option maxHeartbeats 4000000 in
theorem l20Take_any (b n : Nat) (w : World) (hR : Rd w b n) (hn : n ≤ 70000) :
    Calls Tryd.prog 44 #[.pointer (some ⟨b, 0, none⟩)] w (DrewTake w b) := by
  have hblt := hR.lt
  go_enter Tryd.func44, Tryd.ntmps44
  go_wp2_with fail
  refine (l20Lots_any b n 9 _ hR (by omega) (by omega)).mono ?_
  rintro e w1 ⟨ls, g, c, rfl, hS1, hl, hR1, hg1⟩
  have HS1 := hide hS1
  have HG1 := hide hg1
  have hz1 := hg1.size
  clear hS1 hg1 hR
  go_wp2_with fail
  refine (pick_any b _ 8 _ hR1 (by omega) (by omega)).mono ?_
  rintro e w2 ⟨d, rfl, hd0, hd1, hR2, hg2⟩
  have HS2 := hide (LotSl.pick HS1.out hblt hg2)
  have HG2 := hide (HG1.out.trans hg2)
  have hd7 : d ≤ 7 := by omega
  clear hg2 hR1 HS1 HG1
  go_wp2_with fail
  refine (pick_any b _ 30 _ hR2 (by omega) (by omega)).mono ?_
  rintro e w3 ⟨p, rfl, hp0, hp1, hR3, hg3⟩
  have HS3 := hide (LotSl.pick HS2.out hblt hg3)
  have HG3 := hide (HG2.out.trans hg3)
  have hz3 := HG3.out.size
  have HI3 := hide (LotSl.lots HS3.out)
  have hl1 : ls.length ≤ 1048576 := by omega
  have HR3 := hide hR3
  clear hg3 hR2 hR3 HS2 HG2
  go_wp2_with fail
  refine (specTakeFirst_any _ _ ls (d - 1) p _ HI3.out hl1).mono ?_
  rintro e w4 ⟨v, rfl, hv, hB4⟩
  have HS4 := hide (LotSl.below HS3.out hB4)
  have HG4 := hide (grown_belowT HG3.out hB4)
  have HR4 := hide (rd_belowT HR3.out hB4)
  have htl : (takeFirstL ls (d - 1) p).length ≤ 6 := Nat.le_trans (takeFirstL_len _ _ _) hl
  obtain ⟨T, hT⟩ : ∃ T, takeFirstL ls (d - 1) p = T := ⟨_, rfl⟩
  rw [hT] at hv htl
  clear hT
  have HV := hide (ownsRow_mono hv hz3)
  have hz4 := HG4.out.size
  clear hB4 hv HS3 HG3 HR3 HI3
  obtain ⟨A4, c4, hve, -, -⟩ := IntSl.form HV.out
  subst hve
  go_wp2_with fail
  go_loopw [8] (fun iv wr => ∃ (k : Nat) (t : List Int), k ≤ T.length ∧ iv = .int .i64 k ∧ Hid (t.length = T.length) ∧ IntSl wr w.heap.size (.slice A4 T.length c4) t ∧ LotSl wr w.heap.size (.slice (some ⟨g, 0, none⟩) ls.length c) ls ∧ Rd wr b (n + 22 + 3 * k) ∧ w.grownBy wr (some b)) (fun iv _ => T.length - (intOf iv).toNat)
  case atStart => exact ⟨0, T, Nat.zero_le _, rfl, hide rfl, HV.out, HS4.out, HR4.out.mono (by omega), HG4.out⟩
  case round =>
    obtain ⟨k, t, hk, rfl, HTL, hV, hS, hRr, hgr⟩ := hrel
    have HVr := hide hV
    have HSr := hide hS
    have HGr := hide hgr
    have hzr := hgr.size
    have HAP := hide (lots_apart hS hV)
    clear hV hS hgr HV HS4 HG4 HR4
    by_cases hlt : k < T.length
    · obtain ⟨x, hx⟩ : ∃ x, t[k]? = some x := ⟨_, List.getElem?_eq_getElem (show k < t.length by rw [HTL.out]; exact hlt)⟩
      have HXK := hide hx
      rcases IntSl.two HVr.out with ⟨e, hn⟩ | ⟨gt, ct, e⟩
      · rw [hn] at hx; simp at hx
      · injection e with e1 e2 e3
        subst e1
        have hk0 : (0 : Int) ≤ k := by omega
        have hk1 : (k : Int) < T.length := by omega
        clear e2 e3 hx
        go_wp2_with fail
        refine (pick_any b _ 4 _ hRr (by omega) (by omega)).mono ?_
        rintro e w5 ⟨q, rfl, hq0, hq1, hR5, hg5⟩
        have HV5 := hide (IntSl.pick HVr.out hblt hg5)
        have HS5 := hide (LotSl.pick HSr.out hblt hg5)
        have HG5 := hide (HGr.out.trans hg5)
        clear hg5 hRr HVr HSr HGr
        by_cases hqz : q = 0
        · have hqb : (q == 0) = true := by rw [hqz]; rfl
          clear hqz
          go_wp2_with fail
          refine (pick_any b _ 6 _ hR5 (by omega) (by omega)).mono ?_
          rintro e w6 ⟨p6, rfl, h60, h61, hR6, hg6⟩
          have HV6 := hide (IntSl.pick HV5.out hblt hg6)
          have HS6 := hide (LotSl.pick HS5.out hblt hg6)
          have HG6 := hide (HG5.out.trans hg6)
          have h62 : p6 ≤ 5 := by omega
          clear hg6 hR5 HV5 HS5 HG5
          go_wp2_with fail
          refine (pick_any b _ 20 _ hR6 (by omega) (by omega)).mono ?_
          rintro e w7 ⟨p7, rfl, h70, h71, hR7, hg7⟩
          have HV7 := hide (IntSl.pick HV6.out hblt hg7)
          have HS7 := hide (LotSl.pick HS6.out hblt hg7)
          have HG7 := hide (HG6.out.trans hg7)
          have hz7 := HG7.out.size
          obtain ⟨t7, ht7, ht70, ht71⟩ := tdiv_19 h70 (by omega)
          have h72 : p7 ≤ 19 := by omega
          have hc7 := IntSl.cellAt HV7.out HXK.out
          have hf7 := IntSl.frozenAt HV7.out k
          have HV8 := hide (IntSl.store HV7.out k (p6 - t7))
          have HGS := hide (IntSl.grownSet HV7.out k (p6 - t7))
          have hgt := (World.ownsRow.lt HV7.out gt rfl)
          have hgl := hgt.1
          have HS8 := hide (LotSl.row HS7.out HGS.out (.inr (by intro e; exact HAP.out e)))
          have HR8 := hide (rd_grown hR7 HGS.out (fun j hj => by injection hj with hj; omega))
          have HG8 := hide (grown_row HG7.out HGS.out (fun j hj => by injection hj with hj; omega))
          clear hg7 hR6 hR7 HV6 HS6 HG6 hgt
          go_wp2_with fail
          go_roundw
          case rel => exact ⟨k + 1, t.set k (p6 - t7), hlt, by go_num, hide (by rw [List.length_set, HTL.out]), HV8.out, HS8.out, HR8.out.mono (by omega), HG8.out⟩
          case measure => simp [intOf]; omega
        · have hqb : (q == 0) = false := beq_false_of_ne hqz
          have HR5 := hide hR5
          clear hqz hR5
          go_wp2_with fail
          go_roundw
          case rel => exact ⟨k + 1, t, hlt, by go_num, HTL, HV5.out, HS5.out, HR5.out.mono (by omega), HG5.out⟩
          case measure => simp [intOf]; omega
    · have hk1 : ¬ (k : Int) < T.length := by omega
      go_wp2_with fail
      refine (odd_any b _ 14 _ hRr (by omega) (by omega)).mono ?_
      rintro e w5 ⟨β, rfl, hR5, hg5⟩
      have HV5 := hide (IntSl.pick HVr.out hblt hg5)
      have HS5 := hide (LotSl.pick HSr.out hblt hg5)
      have HG5 := hide (HGr.out.trans hg5)
      have hz5 := HG5.out.size
      clear hg5 hRr hR5 HVr HSr HGr
      have htl5 : t.length ≤ 6 := by rw [HTL.out]; exact htl
      cases β with
      | false =>
        go_wp2_with fail
        refine bodyPost_ret (results_tmp3 rfl _ _ _) rfl ⟨ls, g, c, d - 1, t, A4, c4, by rw [HTL.out]; rfl, HS5.out, hl, by rw [HTL.out]; exact HV5.out, by omega, by omega, by omega, HG5.out⟩
      | true =>
        have HLO := hide (World.ownsRow.lt HV5.out)
        have htm : t.length ≤ 1048576 := by omega
        go_wp2_with (at_builtin; refine wpList_wanted (by rfl) (wp_push_int _ _ (by rfl) w.heap.size (.slice A4 T.length c4) t (by rfl) (World.ownsRow.alloc HV5.out _) w5.heap.size 0 (by rfl) (heap_alloc_new w5 _) htm (by simp; omega) ?_); intro g' cap w6 hown hgrow; have HOW := hide hown; have HS6 := hide (LotSl.row (World.ownsRow.alloc HS5.out _) hgrow (.inr (by intro e; exact HAP.out e))); have HG6 := hide (grown_row (HG5.out.trans (World.grownBy_alloc w5 _ _)) hgrow (fun k hk => (HLO.out k hk).1)); clear hown hgrow)
        refine bodyPost_ret (results_tmp3 rfl _ _ _) rfl ⟨ls, g, c, d - 1, t ++ [0], some ⟨g', 0, none⟩, cap, by rw [List.length_append]; rfl, HS6.out, hl, by rw [List.length_append]; exact HOW.out, by rw [List.length_append]; simp; omega, by omega, by omega, HG6.out⟩
end Go.Proofs.YtndcanllkmfahaaDoor
