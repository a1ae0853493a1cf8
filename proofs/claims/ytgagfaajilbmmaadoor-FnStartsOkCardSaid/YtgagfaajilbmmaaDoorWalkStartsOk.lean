/- For all drawn bytes the law of StartsOk answers true, and its arguments read as they did; the draw of tasks and of times.
   Conditions: none. -/
import Derived.Test.YtgagfaajilbmmaaDoorLawKit
import Derived.Test.YtgagfaajilbmmaaDoorDrawTasks
import Derived.Test.YtgagfaajilbmmaaDoorTaskMath
import Derived.Test.YtgagfaajilbmmaaDoorLate
namespace Go.Proofs.YtgagfaajilbmmaaDoor
open Go.RowKit Go.ChangeShapes Go.WideShapes Go.ChangeAt Go.Deep

theorem drewTk_l {w w' : World} {b n : Nat} {e : Ending} (h : DrewTk w b n e w') (hR : Rd w b n) : ∃ (l : List Task) (g c : Nat), e = .returned (.slice (some ⟨g, 0, none⟩) l.length c) ∧ l.length ≤ 8 ∧ (∀ x ∈ l, x.after.length ≤ 8) ∧ l.length ≤ c ∧ c ≤ maxLen ∧
    Rd w' b (n + 80) ∧ w.grownBy w' (some b) ∧ ∀ w2, w'.grownBy w2 (some b) → TasksAt w2 (some ⟨g, 0, none⟩) l := by
  obtain ⟨ps, g, c, rfl, hS, hl, hle, hR2, hg⟩ := h
  have hc := TaskSl.cap hS
  have hb := hR.lt
  refine ⟨ps.map Prod.fst, g, c, by rw [List.length_map], by rw [List.length_map]; exact hl, fun x hx => ?_, by rw [List.length_map]; exact hc.2.1, hc.2.2.1, hR2, hg, fun w2 h2 => ?_⟩
  · obtain ⟨p, hp, rfl⟩ := List.mem_map.1 hx
    exact hle p hp
  · obtain ⟨A, c', e, hA⟩ := (hS.pick hR2 hb h2).form
    injection e with e1 e2 e3
    subst e1
    exact hA
theorem rngK {B : Int} {l : List Int} {k : Nat} {v : Int} (h : ∀ x ∈ l, 0 ≤ x ∧ x ≤ B) (h0 : 0 ≤ v) (h1 : v ≤ B + 5) : ∀ x ∈ l.set k v, 0 ≤ x ∧ x ≤ B + 5 := fun x hx => by
  rcases List.mem_or_eq_of_mem_set hx with hx | rfl
  · have := h x hx
    omega
  · exact ⟨h0, h1⟩
theorem startsBoth_rng (l : List Task) : (∀ t ∈ startsEarlyL l, 0 ≤ t ∧ t ≤ 210) ∧ ∀ t ∈ startsLateL l, 0 ≤ t ∧ t ≤ 210 := by
  by_cases h : tasksOk l = true
  · exact ⟨startsEarlyL_ok h, late_rng h⟩
  · exact ⟨fun t ht => (by unfold startsEarlyL at ht; rw [if_neg h] at ht; cases ht), fun t ht => (by rw [late_no (by simpa using h)] at ht; cases ht)⟩
theorem startsBoth_len (l : List Task) (h8 : l.length ≤ 8) : (startsEarlyL l).length ≤ 8 ∧ (startsLateL l).length ≤ 8 := by
  by_cases h : tasksOk l = true
  · rw [startsEarlyL_len h, late_len h]; exact ⟨h8, h8⟩
  · exact ⟨(by unfold startsEarlyL; rw [if_neg h]; simp), by rw [late_no (by simpa using h)]; simp⟩

theorem IntSl.addr {w : World} {lo n c : Nat} {A : Option Addr} {l : List Int} (h : IntSl w lo (.slice A n c) l) (hn : 0 < l.length) : ∃ g, A = some ⟨g, 0, none⟩ := by
  rcases h.2 with ⟨-, h0⟩ | ⟨g, cap, cur, hv, -⟩
  · omega
  · injection hv with hv
    exact ⟨g, hv⟩

def DrawnSO (w : World) (e : Ending) (w' : World) : Prop := ∃ (l : List Task) (g c : Nat) (ss : List Int) (B : Option Addr) (d : Nat), e = .returned (.tuple #[.slice (some ⟨g, 0, none⟩) l.length c, .slice B ss.length d]) ∧
  TasksAt w' (some ⟨g, 0, none⟩) l ∧ l.length ≤ 8 ∧ (∀ x ∈ l, x.after.length ≤ 8) ∧ IntsAt w' B ss ∧ ss.length ≤ 9 ∧ Below w.heap.size w w'

set_option maxRecDepth 100000 in
set_option maxHeartbeats 4000000 in
theorem drawStartsOk_any (A : Option Addr) (c m : Nat) (w : World) (hB : BytesIn w A m) (hm : m ≤ 9223372036854775807) (hc : m ≤ c) (hc2 : c ≤ 9223372036854775807) :
    Calls Tryd.prog 20 #[.slice A m c] w (DrawnSO w) := by
  go_enter Tryd.func20, Tryd.ntmps20
  go_wp2_with fail
  refine (open_any A c m w hB hm hc hc2).mono ?_
  rintro e w1 ⟨rfl, hR1, hb1⟩
  have hz1 := hb1.size
  go_wp2_with fail
  refine (l20Tasks_any w.heap.size 0 9 _ hR1 (by omega) (by omega)).mono ?_
  intro e w2 h2
  obtain ⟨l, g, c2, rfl, hl8, hle, hlc, hcm, hR2, hg2, hT⟩ := drewTk_l h2 hR1
  have HB2 : Hid (Below w.heap.size w w2) := hide (hb1.grown hg2 hz1 (fun j hj => by injection hj with hj; omega))
  have HP := hide (fun (x : Task) (hx : x ∈ l) => Nat.le_trans (hle x hx) (by omega : 8 ≤ 1048576))
  have HT := hide hT
  have HLE := hide hle
  have HR2 := hide hR2
  have hl' : l.length ≤ 1048576 := by omega
  have hblt := hR2.lt
  clear h2 hT hg2 hle hR2
  obtain ⟨b, hbe⟩ : ∃ b, w.heap.size = b := ⟨_, rfl⟩
  have hbge : w.heap.size ≤ b := by omega
  rw [hbe] at HR2 hblt HT ⊢
  clear hbe
  have hT2 := HT.out w2 (World.grownBy.refl _ _)
  obtain ⟨N, hN⟩ : ∃ N : Nat, 0 + 80 = N := ⟨_, rfl⟩
  rw [hN] at HR2
  go_wp2_with fail
  refine (specStartsEarly_any _ _ _ _ hT2 hl' HP.out).mono ?_
  rintro e w3 ⟨v3, rfl, hS3, hB3⟩
  have HS3 := hide hS3
  have HG3 : Hid (w2.grownBy w3 (some b)) := hide (grown_belowI (World.grownBy.refl _ _) hB3)
  have HR3 := hide (rd_belowI HR2.out hB3)
  have hz3 := hB3.size
  clear hS3 hB3 hT2
  go_wp2_with fail
  refine (pick_any b _ 2 _ HR3.out (by omega) (by omega)).mono ?_
  rintro e w4 ⟨q4, rfl, hq40, hq41, hR4, hg4⟩
  have HS4 := hide (row_pickI HS3.out hblt hg4)
  have HG4 := hide (HG3.out.trans hg4)
  have HR4 := hide hR4
  clear hR4 hg4 HS3 HG3 HR3
  go_upto_if 17 with (fail)
  go_cut [6] (fun v wx => ∃ ss, IntSl wx w2.heap.size v ss ∧ ss.length ≤ 8 ∧ Hid (∀ t ∈ ss, 0 ≤ t ∧ t ≤ 210) ∧ Rd wx b (N + 1) ∧ w2.grownBy wx (some b))
  case first =>
    by_cases hq : q4 = 0
    · subst hq
      have hT4 := HT.out w4 HG4.out
      go_wp2_with fail
      refine (specStartsLate_any _ _ _ _ hT4 hl' HP.out).mono ?_
      rintro e w5 ⟨v5, rfl, hS5, hB5⟩
      go_wp2_with fail
      go_meet
      exact ⟨_, ownsRow_mono hS5 (HG4.out.size), (startsBoth_len l hl8).2, hide (startsBoth_rng l).2, rd_belowI HR4.out hB5, grown_belowI HG4.out hB5⟩
    · have hqb : (q4 == 0) = false := beq_false_of_ne hq
      go_wp2_with fail
      go_meet
      exact ⟨_, HS4.out, (startsBoth_len l hl8).1, hide (startsBoth_rng l).1, HR4.out, HG4.out⟩
  case rest =>
    clear HS4 HG4 HR4
    obtain ⟨ss, hS, hss8, HX, hR, hG⟩ := hcut
    have HS := hide hS
    have HG := hide hG
    obtain ⟨B0, d0, hv, -⟩ := hS.form
    clear hS hG
    subst hv
    go_wp2_with fail
    refine (pick_any b _ 6 _ hR (by omega) (by omega)).mono ?_
    rintro e w5 ⟨q5, rfl, hq50, hq51, hR5, hg5⟩
    obtain ⟨n, hn⟩ : ∃ n : Nat, ss.length = n := ⟨_, rfl⟩
    rw [hn] at hss8
    have HS5 : Hid (IntSl w5 w2.heap.size (.slice B0 n d0) ss) := hide (by rw [← hn]; exact row_pickI HS.out hblt hg5)
    have HG5 := hide (HG.out.trans hg5)
    have HR5 := hide hR5
    have HN := hide hn
    rw [hn]
    clear hn hR5 hg5 HS HG hR
    go_wp2_with fail
    go_loopw [8] (fun iv wr => ∃ (k : Nat) (l2 : List Int), k ≤ n ∧ iv = .int .i64 k ∧ Hid (l2.length = n) ∧ Hid (∀ x ∈ l2, 0 ≤ x ∧ x ≤ 210 + 5 * (k : Int)) ∧ IntSl wr w2.heap.size (.slice B0 n d0) l2 ∧ Rd wr b (N + 2 + k) ∧ w2.grownBy wr (some b)) (fun iv _ => n - (intOf iv).toNat)
    case atStart => exact ⟨0, ss, Nat.zero_le _, rfl, HN, hide (fun x hx => by have := HX.out x hx; omega), HS5.out, HR5.out, HG5.out⟩
    case round =>
      clear HS5 HR5 HG5 HN HX
      obtain ⟨k, l2, hk, rfl, HN, HX, hS, hR, hG⟩ := hrel
      have HS := hide hS
      have HG := hide hG
      clear hS hG
      by_cases hkl : k < n
      · obtain ⟨gb, rfl⟩ := IntSl.addr HS.out (by rw [HN.out]; omega)
        obtain ⟨x, hx⟩ : ∃ x, l2[k]? = some x := ⟨_, List.getElem?_eq_getElem (by rw [HN.out]; exact hkl)⟩
        have hxr := HX.out x (List.mem_of_getElem? hx)
        have hx0 := hxr.1
        have hx1 := hxr.2
        obtain ⟨-, -, -, hlo6, hg6⟩ := IntSl.capI HS.out
        have hc9 := IntSl.cellAt HS.out hx
        have hf9 := IntSl.frozenAt HS.out k
        have hk0 : (0 : Int) ≤ k := by omega
        have hk1 : (k : Int) < n := by omega
        have hw9 : IntKind.i64.wrap (x + q5) = x + q5 := IntWalk.i64_in _ (by omega)
        have HST := hide (IntSl.store HS.out k (x + q5))
        have HGS := hide (IntSl.grownSet HS.out k (x + q5))
        have hL7 : (l2.set k (x + q5)).length = n := by rw [List.length_set]; exact HN.out
        have HX7 : Hid (∀ y ∈ l2.set k (x + q5), 0 ≤ y ∧ y ≤ 210 + 5 * (k : Int) + 5) := hide (rngK HX.out (by omega) (by omega))
        have hc8 : (l2.set k (x + q5))[k]? = some (x + q5) := by rw [List.getElem?_set_self (by rw [HN.out]; exact hkl)]
        have HR7 := hide (rd_grownI hR HGS.out (fun k hk => by injection hk with hk; omega))
        have HG7 := hide (grown_rowI HG.out HGS.out (fun k hk => by injection hk with hk; omega))
        have HS7 := HST
        clear hxr hx HST HGS HS HG hR HX
        generalize l2.set k (x + q5) = l3 at *
        have HN3 := hide hL7
        go_wp2_with fail
        clear hc9 hf9 hw9
        generalize (wr.setCell ⟨gb, k, none⟩ (.int .i64 (x + q5))) = w7 at *
        obtain ⟨y, hy⟩ : ∃ y, x + q5 = y := ⟨_, rfl⟩
        rw [hy] at hc8
        have hy0 : 0 ≤ y := by omega
        have hy1 : y ≤ 400 := by omega
        clear hy hx0 hx1
        refine (pick_any b _ 9 _ HR7.out (by omega) (by omega)).mono ?_
        rintro e w8 ⟨q8, rfl, hq80, hq81, hR8, hg8⟩
        have HS8 := hide (row_pickI HS7.out hblt hg8)
        have HG8 := hide (HG7.out.trans hg8)
        have HR8 := hide (hR8.mono (by omega : N + 2 + k + 1 ≤ N + 2 + (k + 1)))
        clear hR8 hg8 HS7 HG7 HR7
        by_cases hq : q8 = 0
        · have hqb : (q8 == 0) = true := by rw [hq]; rfl
          clear hq
          obtain ⟨z, hz⟩ : ∃ z, max (y - 1) 0 = z := ⟨_, rfl⟩
          have hz0 : 0 ≤ z ∧ z ≤ 400 ∧ z ≤ y := by omega
          have hyl : y ≤ 210 + 5 * (k : Int) + 5 := (HX7.out y (List.mem_of_getElem? hc8)).2
          have hcA := IntSl.cellAt HS8.out hc8
          have hfA := IntSl.frozenAt HS8.out k
          have HST := hide (IntSl.store HS8.out k z)
          have HGS := hide (IntSl.grownSet HS8.out k z)
          have HN4 : Hid ((l3.set k z).length = n) := hide (by rw [List.length_set]; exact HN3.out)
          have HX8 : Hid (∀ y ∈ l3.set k z, 0 ≤ y ∧ y ≤ 210 + 5 * ((k + 1 : Nat) : Int)) := hide (fun u hu => by
            rcases List.mem_or_eq_of_mem_set hu with hu | rfl
            · have := HX7.out u hu
              omega
            · omega)
          have HR9 := hide (rd_grownI HR8.out HGS.out (fun k hk => by injection hk with hk; omega))
          have HG9 := hide (grown_rowI HG8.out HGS.out (fun k hk => by injection hk with hk; omega))
          have HS9 := HST
          clear HST HGS HS8 HG8 HR8 hz0 hyl hc8
          go_wp2_with fail
          go_roundw
          case rel => exact ⟨k + 1, l3.set k z, hkl, by go_num, HN4, HX8, HS9.out, HR9.out, HG9.out⟩
          case measure => simp [intOf]; omega
        · have hqb : (q8 == 0) = false := beq_false_of_ne hq
          go_wp2_with fail
          go_roundw
          case rel => exact ⟨k + 1, l3, hkl, by go_num, HN3, hide (fun u hu => by have := HX7.out u hu; omega), HS8.out, HR8.out, HG8.out⟩
          case measure => simp [intOf]; omega
      · go_wp2_with fail
        refine (odd_any b _ 14 _ hR (by omega) (by omega)).mono ?_
        rintro e w6 ⟨β, rfl, hR6, hg6⟩
        have HS6 := hide (row_pickI HS.out hblt hg6)
        have HG6 := hide (HG.out.trans hg6)
        have HRL := hide hR6.lt
        have hl2 : l2.length ≤ 8 := by rw [HN.out]; exact hss8
        clear hg6 HS HG hR6 hR
        cases β with
        | false =>
          obtain ⟨B1, d1, e1, hI, -⟩ := IntSl.form HS6.out
          injection e1 with e1 e2 e3
          subst e1 e3
          go_wp2_with fail
          refine bodyPost_ret (results_tmp2 rfl _ _ _) rfl ⟨l, g, c2, l2, B0, d0, by rw [HN.out]; rfl, HT.out _ HG6.out, hl8, HLE.out, hI, by omega, HB2.out.grown HG6.out HB2.out.size (fun j hj => by injection hj with hj; omega)⟩
        | true =>
          have hlr := HRL.out
          have HLO := hide (World.ownsRow.lt HS6.out)
          go_wp2_with (at_builtin; refine wpList_wantedI (by rfl) (wp_push_intI _ _ (by rfl) w2.heap.size (.slice B0 n d0) l2 (by rfl) (World.ownsRow.alloc HS6.out _) w6.heap.size 0 (by rfl) (heap_alloc_new w6 _) (by omega) (by have := HG6.out.size; simp; omega) ?_); intro g' cap w7 hown hgrow; have HOW := hide (And.intro hown hgrow); clear hown hgrow)
          have HG7 : Hid (w2.grownBy w7 (some b)) := hide (grown_rowI (grown_belowI HG6.out ((Below.refl _ _).alloc (Nat.le_refl _) _)) HOW.out.2 (fun k hk => (HLO.out k hk).1))
          refine bodyPost_ret (results_tmp2 rfl _ _ _) rfl ⟨l, g, c2, l2 ++ [0], _, cap, by rw [List.length_append]; rfl, HT.out _ HG7.out, hl8, HLE.out, IntSl.ints HOW.out.1, by simp; omega, HB2.out.grown HG7.out HB2.out.size (fun j hj => by injection hj with hj; omega)⟩

set_option maxRecDepth 100000 in
set_option maxHeartbeats 4000000 in
theorem lawStartsOk_any (A : Option Addr) (c m : Nat) (w : World) (hB : BytesIn w A m) (hc : m ≤ c) (hc2 : c ≤ 9223372036854775807) :
    Calls Tryd.prog 5 #[.slice A m c] w fun e w' => e = .returned (.bool true) ∧ Below w.heap.size w w' := by
  by_cases hlen : (1048576 : Int) < m
  · go_enter Tryd.func5, Tryd.ntmps5
    go_wp2_with fail
    go_ret
    exact ⟨rfl, by go_grown⟩
  · go_enter Tryd.func5, Tryd.ntmps5
    go_wp2_with fail
    refine (drawStartsOk_any A c m w hB (by omega) hc hc2).mono ?_
    rintro e w1 ⟨l, g, c1, ss, B, d1, rfl, hI, hl8, hle, hSI, hs9, hb1⟩
    have HI1 := hide hI
    have HS1 := hide hSI
    have HP := hide (fun (x : Task) (hx : x ∈ l) => Nat.le_trans (hle x hx) (by omega : 8 ≤ 1048576))
    have hl' : l.length ≤ 1048576 := by omega
    have hs' : ss.length ≤ 1048576 := by omega
    clear hI hle hSI
    obtain ⟨β, HB⟩ : ∃ β, Hid (startsOkL l ss = β) := ⟨_, hide rfl⟩
    have hββ : (β != β) = false := by simp
    go_wp2_with fail
    refine (implStartsOk_any _ _ _ _ _ _ _ HI1.out hl' HP.out HS1.out hs').mono ?_
    rintro e w2 ⟨rfl, hB2⟩
    rw [HB.out]
    have hb2 := next hb1 hB2
    have HI2 := hide (HI1.out.below hB2)
    have HS2 := hide (HS1.out.below hB2)
    clear hB2 HI1 HS1
    go_wp2_with fail
    refine (specStartsOk_any _ _ _ _ _ _ _ HI2.out hl' HP.out HS2.out hs').mono ?_
    rintro e w3 ⟨rfl, hB3⟩
    rw [HB.out]
    have hb3 := next hb2 hB3
    have HI3 := hide (HI2.out.below hB3)
    have HS3 := hide (HS2.out.below hB3)
    clear hB3 HI2 HS2
    cases β with
    | false =>
      go_wp2_with fail
      refine (alive_any _).mono ?_
      rintro e w9 ⟨rfl, hB9⟩
      go_wp2_with fail
      go_ret
      exact ⟨rfl, next hb3 hB9⟩
    | true =>
      have hok := startsOk_iff.1 HB.out
      have hM := hok.1
      obtain ⟨es, HES⟩ : ∃ es, Hid (startsEarlyL l = es) := ⟨_, hide rfl⟩
      obtain ⟨ls, HLS⟩ : ∃ ls, Hid (startsLateL l = ls) := ⟨_, hide rfl⟩
      obtain ⟨en, HEN⟩ : ∃ en, Hid (tasksEndL l = en) := ⟨_, hide rfl⟩
      have HSL : Hid (ss.length = l.length) := hide hok.2.1
      have HRG := hide hok.2.2.1
      have HEL : Hid (es.length = l.length) := hide (by rw [← HES.out]; exact startsEarlyL_len hM)
      have HLL : Hid (ls.length = l.length) := hide (by rw [← HLS.out]; exact late_len hM)
      have HSP := hide (tasks_span hM)
      have HLO : Hid (∀ k, k < l.length → es.getD k 0 ≤ ss.getD k 0) := hide (by rw [← HES.out]; exact early_least HB.out)
      have HUP : Hid ((∀ i, i < l.length → ss.getD i 0 + spanAt l i ≤ en) → ∀ i, i < l.length → ss.getD i 0 ≤ ls.getD i 0) := hide (by rw [← HLS.out, ← HEN.out]; exact late_most HB.out)
      have hen0 := end_nn hM
      have hen1 := end_top hM
      rw [HEN.out] at hen0 hen1
      clear hok hM
      go_wp2_with fail
      refine (implStartsEarly_any _ _ _ _ HI3.out hl' HP.out).mono ?_
      rintro e w4 ⟨v4, rfl, hS4, hB4⟩
      rw [HES.out] at hS4
      obtain ⟨A4, d4, rfl, hSI4, -⟩ := hS4.form
      have hb4 := next hb3 hB4
      have HI4 := hide (HI3.out.below hB4)
      have HS4 := hide (HS3.out.below hB4)
      have HE4 := hide hSI4
      clear hB4 HI3 HS3 hS4 hSI4
      go_wp2_with fail
      refine (implStartsLate_any _ _ _ _ HI4.out hl' HP.out).mono ?_
      rintro e w5 ⟨v5, rfl, hS5, hB5⟩
      rw [HLS.out] at hS5
      obtain ⟨A5, d5, rfl, hSI5, -⟩ := hS5.form
      have hb5 := next hb4 hB5
      have HI5 := hide (HI4.out.below hB5)
      have HS5 := hide (HS4.out.below hB5)
      have HE5 := hide (HE4.out.below hB5)
      have HL5 := hide hSI5
      clear hB5 HI4 HS4 HE4 hS5 hSI5
      go_wp2_with fail
      refine (implTasksEnd_any _ _ _ _ HI5.out hl' HP.out).mono ?_
      rintro e w6 ⟨rfl, hB6⟩
      rw [HEN.out]
      have hb6 := next hb5 hB6
      have HI6 := hide (HI5.out.below hB6)
      have HS6 := hide (HS5.out.below hB6)
      have HE6 := hide (HE5.out.below hB6)
      have HL6 := hide (HL5.out.below hB6)
      have hel : (es.length : Int) = l.length := by rw [HEL.out]
      have hll : (ls.length : Int) = l.length := by rw [HLL.out]
      clear hB6 HI5 HS5 HE5 HL5
      have hne1 : ((es.length : Int) != l.length) = false := by simp [hel]
      have hne2 : ((ls.length : Int) != l.length) = false := by simp [hll]
      go_wp2_with fail
      go_loopw [9, 10] (fun sv iv wr => ∃ (k : Nat) (b : Bool), k ≤ l.length ∧ iv = .int .i64 k ∧ sv = .bool b ∧ Hid (b = true → ∀ i, i < k → ss.getD i 0 + spanAt l i ≤ en) ∧ Below w6.heap.size w6 wr) (fun _ iv _ => l.length - (intOf iv).toNat)
      case atStart => exact ⟨0, true, Nat.zero_le _, rfl, rfl, hide (fun _ i hi => absurd hi (by omega)), Below.refl _ _⟩
      case round =>
        obtain ⟨k, b, hk, rfl, rfl, HB1, hbr⟩ := hrel
        have HIr := hide (HI6.out.below hbr)
        have HSr := hide (HS6.out.below hbr)
        have HEr := hide (HE6.out.below hbr)
        have HLr := hide (HL6.out.below hbr)
        by_cases hkl : k < l.length
        · have hk0 : (0 : Int) ≤ k := by omega
          have hk1 : (k : Int) < l.length := by omega
          have hk2 : (k : Int) < ss.length := by rw [HSL.out]; exact hk1
          obtain ⟨x, hx⟩ : ∃ x, ss[k]? = some x := ⟨_, List.getElem?_eq_getElem (by rw [HSL.out]; exact hkl)⟩
          obtain ⟨t, ht⟩ : ∃ t, l[k]? = some t := ⟨_, List.getElem?_eq_getElem hkl⟩
          have hxr := HRG.out x (List.mem_of_getElem? hx)
          have htr := HSP.out t (List.mem_of_getElem? ht)
          obtain ⟨sp, hsp⟩ : ∃ sp, t.span = sp := ⟨_, rfl⟩
          have HV : Hid (ss.getD k 0 + spanAt l k = x + sp) := hide (by rw [getDT_at hx, spanAt, getDT_at ht, hsp])
          obtain ⟨ab, off, rfl, hbl, hc1⟩ := HSr.out k x hx
          obtain ⟨ab2, off2, A2, c2, he, hbl2, hr1, -, -⟩ := HIr.out k t ht
          injection he with he
          injection he with he1 he2
          subst he1 he2
          rw [Nat.zero_add, hsp] at hr1
          rw [hsp] at htr
          have hw : IntKind.i64.wrap (x + sp) = x + sp := IntWalk.i64_in _ (by omega)
          clear hx ht hsp hxr htr
          cases b with
          | false =>
            go_wp2_with fail
            go_quiet (fail)
            go_wp2_with fail
            go_roundw
            case rel => exact ⟨k + 1, false, hkl, by go_num, rfl, hide (fun h => by cases h), below_drewN hbr _⟩
            case measure => simp [intOf]; omega
          | true =>
            have HB2 : Hid (decide (x + sp ≤ en) = true → ∀ i, i < k + 1 → ss.getD i 0 + spanAt l i ≤ en) := hide (fun h i hi => by
              by_cases e : i = k
              · subst e
                rw [HV.out]
                exact of_decide_eq_true h
              · exact HB1.out rfl i (by omega))
            go_wp2_with fail
            go_quiet (fail)
            go_wp2_with fail
            go_roundw
            case rel => exact ⟨k + 1, decide (x + sp ≤ en), hkl, by go_num, by go_num, HB2, below_drewN hbr _⟩
            case measure => simp [intOf]; omega
        · obtain rfl : k = l.length := by omega
          have HUP2 : Hid (b = true → ∀ i, i < l.length → ss.getD i 0 ≤ ls.getD i 0) := hide (fun h => HUP.out (HB1.out h))
          have hbq := next hb6 hbr
          obtain ⟨w7, hw7⟩ : ∃ w7, wr = w7 := ⟨_, rfl⟩
          rw [hw7] at hbq HIr HSr HEr HLr ⊢
          clear hw7 hbr HB1 HUP HI6 HS6 HE6 HL6
          go_wp2_with fail
          go_loopw [11] (fun iv wx => ∃ k : Nat, k ≤ l.length ∧ iv = .int .i64 k ∧ Below w7.heap.size w7 wx) (fun iv _ => l.length - (intOf iv).toNat)
          case atStart => exact ⟨0, Nat.zero_le _, rfl, Below.refl _ _⟩
          case round =>
            obtain ⟨k, hk, rfl, hbx⟩ := hrel
            have HSx := hide (HSr.out.below hbx)
            have HEx := hide (HEr.out.below hbx)
            have HLx := hide (HLr.out.below hbx)
            by_cases hkl : k < l.length
            · have hk0 : (0 : Int) ≤ k := by omega
              have hk1 : (k : Int) < l.length := by omega
              have hk2 : (k : Int) < ss.length := by rw [HSL.out]; exact hk1
              have hk3 : (k : Int) < es.length := by rw [HEL.out]; exact hk1
              have hk4 : (k : Int) < ls.length := by rw [HLL.out]; exact hk1
              obtain ⟨x, hx⟩ : ∃ x, ss[k]? = some x := ⟨_, List.getElem?_eq_getElem (by rw [HSL.out]; exact hkl)⟩
              obtain ⟨y, hy⟩ : ∃ y, es[k]? = some y := ⟨_, List.getElem?_eq_getElem (by rw [HEL.out]; exact hkl)⟩
              obtain ⟨z, hz⟩ : ∃ z, ls[k]? = some z := ⟨_, List.getElem?_eq_getElem (by rw [HLL.out]; exact hkl)⟩
              have hyx : y ≤ x := by have := HLO.out k hkl; rwa [getDT_at hx, getDT_at hy] at this
              have HXZ : Hid (b = true → x ≤ z) := hide (fun h => by have := HUP2.out h k hkl; rwa [getDT_at hx, getDT_at hz] at this)
              obtain ⟨ab, off, rfl, hbl, hc1⟩ := HSx.out k x hx
              obtain ⟨ab2, off2, rfl, hbl2, hc2⟩ := HEx.out k y hy
              obtain ⟨ab3, off3, rfl, hbl3, hc3⟩ := HLx.out k z hz
              have hd1 : decide (x < y) = false := decide_eq_false (by omega)
              clear hx hy hz hyx
              cases b with
              | false =>
                go_wp2_with fail
                go_quiet (fail)
                go_wp2_with fail
                go_roundw
                case rel => exact ⟨k + 1, hkl, by go_num, below_drewN hbx _⟩
                case measure => simp [intOf]; omega
              | true =>
                have hxz := HXZ.out rfl
                have hd2 : decide (z < x) = false := decide_eq_false (by omega)
                clear hxz
                go_wp2_with fail
                go_quiet (fail)
                go_wp2_with fail
                go_roundw
                case rel => exact ⟨k + 1, hkl, by go_num, below_drewN hbx _⟩
                case measure => simp [intOf]; omega
            · obtain rfl : k = l.length := by omega
              go_wp2_with fail
              go_ret
              exact ⟨rfl, next hbq hbx⟩
end Go.Proofs.YtgagfaajilbmmaaDoor
