/- Contracts of BurnLeast: the program tries each burner for each span, one span after the other, the reference model tries all lists.
   Conditions: the bounds in each statement. -/
import Derived.Test.YteloapholoechaaDoorBurnMath
import Derived.Test.YteloapholoechaaDoorCook6
import Derived.Test.YteloapholoechaaDoorSpread0
namespace Go.Proofs.YteloapholoechaaDoor
open Go.RowKit Go.ChangeShapes Go.WideShapes Go.ChangeAt Go.Deep

set_option maxRecDepth 100000 in
/-- What lies behind the first element of a slice. -/
theorem rest_slice (b off L c : Nat) (hc : L + 1 ≤ c) : ∃ (ad : Addr) (c9 : Nat), L ≤ c9 ∧ (∀ W, (Instr.slice 24 (.slice (some ⟨b, off, none⟩) (L + 1) c) (some (.int .i64 1)) none none).run Tryd.prog W = .ok (.slice (some ad) L c9) W) ∧
    ad.block = b ∧ ∀ W x (r : List Int), r.length = L → IntsAt W (some ⟨b, off, none⟩) (x :: r) → IntsAt W (some ad) r := by
  have ht : Tryd.prog.underlying 24 = some (.slice (Tryd.prog.elem 24)) := rfl
  have hz : ∀ W, (sizeOf (Tryd.prog.elem 24)).run Tryd.prog W = .ok 1 W := fun W => by rfl
  by_cases h1c : c = 1
  · subst h1c
    obtain rfl : L = 0 := by omega
    refine ⟨⟨b, off, none⟩, 0, by omega, fun W => ?_, rfl, fun W x r hr _ => ?_⟩
    · rw [run_slice_l W _ _ _ _ ht .i64 1 (by omega) (by simp), hz]; simp [Result.andThen, sliced]
    · obtain rfl : r = [] := List.eq_nil_of_length_eq_zero hr
      exact IntsAt.nil _ _
  · refine ⟨⟨b, off + 1, none⟩, c - 1, by omega, fun W => ?_, rfl, fun W x r _ h => h.tail⟩
    rw [run_slice_l W _ _ _ _ ht .i64 1 (by omega) (by omega), hz]; simp [Result.andThen, sliced, Addr.add, h1c]

theorem IntSl.capB {w : World} {lo n c g : Nat} {l : List Int} (h : IntSl w lo (.slice (some ⟨g, 0, none⟩) n c) l) : l.length = n ∧ n ≤ c ∧ c ≤ maxLen ∧ lo ≤ g ∧ g < w.heap.size := by
  have hlt := World.ownsRow.lt h g rfl
  rcases h.2 with ⟨hv, _⟩ | ⟨g', cap, cur, hv, _, _, h1, h2, _⟩
  · cases hv
  · injection hv with e1 e2 e3
    subst e2 e3
    exact ⟨rfl, h1, h2, hlt.1, hlt.2⟩
theorem grown_drew1 {w W : World} {q : Option Nat} (h : w.grownBy W q) : w.grownBy W.drew q := ⟨h.os, h.tape, h.output, h.size, h.block⟩
theorem grown_drewN {w W : World} {q : Option Nat} (h : w.grownBy W q) (n : Nat) : w.grownBy (W.drewN n) q := ⟨h.os, h.tape, h.output, h.size, h.block⟩
theorem ints_grown {w W : World} {g : Nat} {b off : Nat} {xs : List Int} (h : IntsAt w (some ⟨b, off, none⟩) xs) (hg : w.grownBy W (some g)) (hne : b ≠ g) : IntsAt W (some ⟨b, off, none⟩) xs := by
  intro i x hx
  obtain ⟨b', off', e, hl, hc⟩ := h i x hx
  injection e with e
  injection e with e1 e2
  subst e1 e2
  exact ⟨b, off, rfl, Nat.lt_of_lt_of_le hl hg.size, hg.cell hc (by intro e; injection e with e; exact hne e)⟩
theorem leastG_bd {xs bs : List Int} (h : ∀ s ∈ xs, 0 ≤ s ∧ s ≤ 30) (hb : ∀ y ∈ bs, 0 ≤ y ∧ y ≤ 100000) : leastG xs bs ≤ 100000 + 30 * xs.length := by
  have a := leastG_le_sum xs bs
  have b := (sumL_range (hi := 30) h).2
  have c : maxFrom 0 bs ≤ 100000 := by
    rcases maxFrom_mem bs 0 with e | e
    · omega
    · exact (hb _ e).2
  omega

set_option maxRecDepth 100000 in
set_option maxHeartbeats 2000000 in
theorem leastEnd_any : ∀ (xs : List Int) (A : Option Addr) (c lo g n cap : Nat) (bs : List Int) (w : World), IntsAt w A xs → Hid (∀ b off, 0 < xs.length → A = some ⟨b, off, none⟩ → b ≠ g) → xs.length ≤ c → xs.length ≤ 6 → Hid (∀ s ∈ xs, 0 ≤ s ∧ s ≤ 30) →
    IntSl w lo (.slice (some ⟨g, 0, none⟩) n cap) bs → n ≤ 3 → Hid (∀ y ∈ bs, 0 ≤ y ∧ y ≤ 1000 - 30 * (xs.length : Int)) →
    Calls Tryd.prog 75 #[.slice (some ⟨g, 0, none⟩) n cap, .slice A xs.length c] w fun e w' => e = .returned (.int .i64 (leastG xs bs)) ∧ IntSl w' lo (.slice (some ⟨g, 0, none⟩) n cap) bs ∧ w.grownBy w' (some g) := by
  intro xs
  induction xs with
  | nil =>
    intro A c lo g n cap bs w hA HNE hc h6 HX hS hn HB
    have hbl := hS.capB.1
    have hG := greatest_any (some ⟨g, 0, none⟩) cap bs w hS.ints (by omega)
    rw [hbl] at hG
    have HG := hide hG
    have H3 : Hid (leastG [] bs = maxFrom 0 bs) := hide rfl
    have HS := hide hS
    clear hG hbl hS hA
    go_enter Tryd.func75, Tryd.ntmps75
    go_wp2_with fail
    refine HG.out.mono ?_
    rintro e w1 ⟨rfl, rfl⟩
    go_wp2_with fail
    go_ret
    exact ⟨by rw [H3.out]; rfl, HS.out, World.grownBy.refl _ _⟩
  | cons s r ih =>
    intro A c lo g n cap bs w hA HNE hc h6 HX hS hn HB
    have hbl := hS.capB.1
    have hgl := hS.capB.2.2.2.2
    have hrl : (s :: r).length = r.length + 1 := rfl
    obtain ⟨b, off, rfl, hbb, hcs⟩ := hA 0 s rfl
    rw [Nat.add_zero] at hcs
    have hbg : b ≠ g := HNE.out b off (by simp) rfl
    obtain ⟨ad, c9, hLc, hsl, hadb, hadr⟩ := rest_slice b off r.length c hc
    have HSL := hide hsl
    have HADR := hide hadr
    have HA := hide hA
    obtain ⟨hs0, hs1⟩ := HX.out s (by simp)
    have HXR : Hid (∀ x ∈ r, 0 ≤ x ∧ x ≤ 30) := hide (fun x hx => HX.out x (by simp [hx]))
    have HNE2 : Hid (∀ b' off', 0 < r.length → some ad = some ⟨b', off', none⟩ → b' ≠ g) := hide (fun b' off' _ e => by
      injection e with e
      subst e
      rw [← hadb] at hbg
      exact hbg)
    have hG := greatest_any (some ⟨g, 0, none⟩) cap bs w hS.ints (by omega)
    rw [hbl] at hG
    have HG := hide hG
    have HBL : Hid (bs.length = n) := hide hbl
    have HSM : Hid (sumW (s :: r) = s + sumL r) := hide (by
      rw [sumW_plain (hi := 30) HX.out (by omega) (by rw [hrl]; omega)]
      rfl)
    have HSO := hide (sumOf_any (some ⟨b, off, none⟩) c (s :: r) w hA (by rw [hrl]; omega))
    have hsr := sumL_range (hi := 30) HXR.out
    have hr5 : r.length ≤ 5 := by simp at h6; omega
    obtain ⟨M, hM⟩ : ∃ M, maxFrom 0 bs = M := ⟨_, rfl⟩
    have hM0 : 0 ≤ M := by rw [← hM]; exact (maxFrom_le _ _).1
    have hM1 : M ≤ 1000 := by
      rw [← hM]
      rcases maxFrom_mem bs 0 with e | e
      · omega
      · have := (HB.out _ e).2; omega
    obtain ⟨R, hR⟩ : ∃ R, sumL r = R := ⟨_, rfl⟩
    rw [hR] at hsr
    have HM := hide hM
    have HR := hide hR
    have H0 : Hid (leastG (s :: r) bs = minFrom (M + (s + R)) ((List.range n).map (fun q => leastG r (addAt bs q s)))) := hide (by rw [leastG, hbl, hM, hR])
    have HN : Hid (((List.range n).map (fun q => leastG r (addAt bs q s))).length = n) := hide (by simp)
    have HS := hide hS
    have HLS : Hid (s :: r = s :: r) := hide rfl
    have HBK : Hid (∀ k, k < n → ∀ y ∈ addAt bs k s, 0 ≤ y ∧ y ≤ 1000 - 30 * (r.length : Int)) := hide (fun k hk y hy => by
      unfold addAt at hy
      have hkb : k < bs.length := by have := HBL.out; omega
      have hg : bs.getD k 0 ∈ bs := by rw [List.getD_eq_getElem?_getD, List.getElem?_eq_getElem hkb]; exact List.getElem_mem hkb
      rcases List.mem_or_eq_of_mem_set hy with hy | hy
      · have := HB.out y hy; rw [hrl] at this; omega
      · have := HB.out _ hg; rw [hrl] at this; omega)
    rw [hrl]
    have hrl2 : ((s :: r).length : Int) = r.length + 1 := by rw [hrl]; omega
    clear hG hbl hS hA hsl hadr hM hR hrl hrl2
    go_enter Tryd.func75, Tryd.ntmps75
    go_wp2_with fail
    refine HG.out.mono ?_
    rintro e w1 ⟨rfl, rfl⟩
    rw [HM.out]
    go_wp2_with fail
    refine HSO.out.mono ?_
    rintro e w1 ⟨rfl, rfl⟩
    rw [HSM.out, HR.out]
    go_wp2_with fail
    go_loopw [5, 19] (fun lv i wr => ∃ (k : Nat) (t : Int), k ≤ n ∧ i = .int .i64 k ∧ lv = .int .i64 t ∧ -1000000 ≤ t ∧ t ≤ 1000000 ∧ Hid (leastG (s :: r) bs = minFrom t (((List.range n).map (fun q => leastG r (addAt bs q s))).drop k)) ∧ IntSl wr lo (.slice (some ⟨g, 0, none⟩) n cap) bs ∧ w.grownBy wr (some g)) (fun _ i _ => n - (intOf i).toNat)
    case atStart => exact ⟨0, M + (s + R), Nat.zero_le _, rfl, rfl, by omega, by omega, hide (by rw [H0.out]; rfl), HS.out, World.grownBy.refl _ _⟩
    case round =>
      clear HG HSO
      obtain ⟨k, t, hk, rfl, rfl, ht0, ht1, HT, hS, hg⟩ := hrel
      by_cases hlt : k < n
      · have hkb : k < bs.length := by have := HBL.out; omega
        obtain ⟨v, hv⟩ : ∃ v, bs[k] = v := ⟨_, rfl⟩
        have hbk : bs[k]? = some v := by rw [List.getElem?_eq_getElem hkb, hv]
        have hcell := hS.cellAt hbk
        have hfz := hS.frozenAt k
        obtain ⟨hv0, hv1⟩ := HB.out v (List.mem_of_getElem? hbk)
        have hcs2 : wr.cell? ⟨b, off, none⟩ = some (.int .i64 s) := hg.cell hcs (by intro e; injection e with e; exact hbg e)
        have HAD : Hid (addAt bs k s = bs.set k (v + s)) := hide (by unfold addAt; rw [List.getD_eq_getElem?_getD, hbk]; rfl)
        have HSS : Hid (IntSl (wr.setCell ⟨g, k, none⟩ (.int .i64 (v + s))) lo (.slice (some ⟨g, 0, none⟩) n cap) (addAt bs k s)) := hide (by rw [HAD.out]; exact IntSl.store hS k (v + s))
        have HGG := hide (hg.trans (IntSl.grownSet hS k (v + s)))
        have HD : Hid (((List.range n).map (fun q => leastG r (addAt bs q s))).drop k = leastG r (addAt bs k s) :: ((List.range n).map (fun q => leastG r (addAt bs q s))).drop (k + 1)) := hide (by
          rw [List.drop_eq_getElem_cons (by rw [HN.out]; exact hlt)]
          simp)
        have hz : (0 : Int) ≤ k := by omega
        have hz2 : (k : Int) < n := by omega
        have hz3 : (0 : Int) < (r.length : Int) + 1 := by omega
        have hz4 : 0 < r.length + 1 := by omega
        have hw1 : IntKind.i64.wrap (v + s) = v + s := IntWalk.i64_in _ (by simp only [List.length_cons] at hv1; omega)
        have hrr : 0 ≤ leastG r (addAt bs k s) ∨ True := .inr trivial
        obtain ⟨q, hq⟩ : ∃ q, leastG r (addAt bs k s) = q := ⟨_, rfl⟩
        have hq1 : q ≤ 100000 + 30 * r.length := by
          rw [← hq]
          exact leastG_bd HXR.out (fun y hy => by have := HBK.out k hlt y hy; omega)
        have hq0 : 0 ≤ q := by
          rw [← hq]
          obtain ⟨on, _, _, e⟩ := leastG_at r (addAt bs k s) (by rw [addAt_len]; omega) (fun x hx => (HXR.out x hx).1)
          rw [e]
          exact (maxFrom_le _ _).1
        have HQ := hide hq
        have HT2 : Hid (leastG (s :: r) bs = minFrom (if q < t then q else t) (((List.range n).map (fun q => leastG r (addAt bs q s))).drop (k + 1))) := hide (by rw [HT.out, HD.out, minFrom, HQ.out])
        have HC2 := hide hcs2
        have hv2 : v ≤ 1000 := by simp only [List.length_cons] at hv1; omega
        have HV : Hid (bs.set k v = bs) := hide (by rw [← hv]; exact List.set_getElem_self hkb)
        clear hS hg hv hbk hq hv1 hrr
        go_wp2_with fail
        refine still_tail_drew 9 (by kernel_rfl) (by kernel_rfl) ?_
        simp only [List.take_succ_cons, List.take_zero, List.drop_succ_cons, List.drop_zero]
        repeat still_step
        refine wpStill_nil ?_
        have hslr := HSL.out
        go_wp2_with fail
        clear hslr hcell hfz hcs2 hw1
        refine (ih (some ad) c9 lo g n cap (addAt bs k s) (wr.setCell ⟨g, k, none⟩ (.int .i64 (v + s))).drew (HADR.out (wr.setCell ⟨g, k, none⟩ (.int .i64 (v + s))).drew s r rfl (ints_grown HA.out (grown_drew1 HGG.out) hbg)) HNE2 hLc (by omega) HXR (IntSl.drew HSS.out) hn (hide (HBK.out k hlt))).mono ?_
        rintro e w2 ⟨rfl, hS2, hg2⟩
        rw [HQ.out]
        have hg3 := (grown_drew1 HGG.out).trans hg2
        have hcell := hS2.cellAt (j := k) (x := v + s) (by rw [HAD.out, List.getElem?_set_self hkb])
        have hfz := hS2.frozenAt k
        have hcs3 : w2.cell? ⟨b, off, none⟩ = some (.int .i64 s) := hg3.cell hcs (by intro e; injection e with e; exact hbg e)
        have hw2 : IntKind.i64.wrap (v + s - s) = v := by rw [Int.add_sub_cancel]; exact IntWalk.i64_in _ (by omega)
        have HS3 : Hid (IntSl (w2.setCell ⟨g, k, none⟩ (.int .i64 v)) lo (.slice (some ⟨g, 0, none⟩) n cap) bs) := hide (by
          have := IntSl.store hS2 k v
          rwa [HAD.out, List.set_set, HV.out] at this)
        have HG3 := hide (hg3.trans (IntSl.grownSet hS2 k v))
        clear hS2 hg2 hg3
        go_wp2_with fail
        all_goals
          refine still_tail_drew 9 (by kernel_rfl) (by kernel_rfl) ?_
          simp only [List.take_succ_cons, List.take_zero, List.drop_succ_cons, List.drop_zero]
          repeat still_step
          refine wpStill_nil ?_
          go_wp2_with fail
          go_roundw
          case rel => first | exact ⟨k + 1, t, hlt, by go_num, rfl, ht0, ht1, hide (by have := HT2.out; rwa [if_neg (by omega)] at this), IntSl.drew HS3.out, grown_drew1 HG3.out⟩ | exact ⟨k + 1, q, hlt, by go_num, rfl, by omega, by omega, hide (by have := HT2.out; rwa [if_pos (by omega)] at this), IntSl.drew HS3.out, grown_drew1 HG3.out⟩
          case measure => simp [intOf]; omega
      · have H3 : Hid (leastG (s :: r) bs = t) := hide (by rw [HT.out, List.drop_of_length_le (by rw [HN.out]; omega), minFrom])
        have hz2 : ¬ (k : Int) < n := by omega
        go_wp2_with fail
        go_ret
        exact ⟨by rw [H3.out]; rfl, hS, hg⟩

set_option maxHeartbeats 1000000 in
theorem implBurnLeast_any (A : Option Addr) (c : Nat) (xs : List Int) (b : Int) (w : World) (hA : IntsAt w A xs) (hl : xs.length ≤ 1048576) (hc : xs.length ≤ c) :
    Calls Tryd.prog 30 #[.slice A xs.length c, .int .i64 b] w fun e w' => e = .returned (.int .i64 (burnLeastL xs b)) ∧ Below w.heap.size w w' := by
  cases hI : burnFit xs b with
  | false =>
    have HI := hide hI
    have H3 : Hid (burnLeastL xs b = -1) := hide (by unfold burnLeastL; rw [hI]; rfl)
    clear hI
    go_enter Tryd.func30, Tryd.ntmps30
    go_wp2_with fail
    refine (burnFits_any _ _ _ _ _ hA hl).mono ?_
    rintro e w1 ⟨rfl, hB1⟩
    rw [HI.out]
    go_wp2_with fail
    go_ret
    exact ⟨by rw [H3.out]; rfl, hB1⟩
  | true =>
    have HI := hide hI
    obtain ⟨hsp, n, rfl, hn1, hn3⟩ := burnFit_parts hI
    have h6 := spansOk_len hsp
    have HSP := hide (spans_rng hsp)
    have H3 : Hid (burnLeastL xs n = leastG xs (tab n (fun _ => 0))) := hide (by unfold burnLeastL; rw [hI]; rfl)
    have hmk := make_ints n (by omega)
    clear hI hsp
    go_enter Tryd.func30, Tryd.ntmps30
    go_wp2_with fail
    refine (burnFits_any _ _ _ _ _ hA hl).mono ?_
    rintro e w1 ⟨rfl, hB1⟩
    rw [HI.out]
    have hsz1 := hB1.size
    have HZ := hide (zeros_tab w1 (lo := w.heap.size) n hsz1 (by omega))
    have hA1 := hA.below hB1
    have HA2 := hide (hA1.below (w' := w1.alloc (.cells (madeCells #[.int .i64 0] n) 3)) (by go_grown))
    have HNE : Hid (∀ b off, 0 < xs.length → A = some ⟨b, off, none⟩ → b ≠ w1.heap.size) := hide (fun b off hx e => by
      obtain ⟨b', off', e', hlt, _⟩ := hA1 0 xs[0] (List.getElem?_eq_getElem hx)
      rw [e] at e'
      injection e' with e'
      injection e' with e1 e2
      omega)
    have hb2 : Below w.heap.size w (w1.alloc (.cells (madeCells #[.int .i64 0] n) 3)) := by go_grown
    clear hA1
    go_wp2_with fail
    clear hmk
    refine (leastEnd_any xs A c w.heap.size w1.heap.size n n (tab n (fun _ => 0)) _ HA2.out HNE hc h6 HSP HZ.out hn3 (hide (fun y hy => by rw [tab_nn y hy]; omega))).mono ?_
    rintro e w2 ⟨rfl, -, hg2⟩
    have hb3 : Below w.heap.size w w2 := hb2.grown hg2 hb2.size (fun k hk => by injection hk with hk; omega)
    clear hg2
    go_wp2_with fail
    go_ret
    exact ⟨by rw [H3.out]; rfl, hb3⟩
set_option maxRecDepth 100000 in
set_option maxHeartbeats 2000000 in
theorem specBurnLeast_any (A : Option Addr) (c : Nat) (xs : List Int) (b : Int) (w : World) (hA : IntsAt w A xs) (hl : xs.length ≤ 1048576) :
    Calls Tryd.prog 38 #[.slice A xs.length c, .int .i64 b] w fun e w' => e = .returned (.int .i64 (burnLeastL xs b)) ∧ Below w.heap.size w w' := by
  cases hI : spansOk xs with
  | false =>
    have HI := hide hI
    have H3 : Hid (burnLeastL xs b = -1) := hide (by unfold burnLeastL burnFit; rw [hI]; rfl)
    clear hI
    go_enter Tryd.func38, Tryd.ntmps38
    go_wp2_with fail
    refine (specSpansValid_any _ _ _ _ hA hl).mono ?_
    rintro e w1 ⟨rfl, hB1⟩
    rw [HI.out]
    go_wp2_with fail
    go_ret
    exact ⟨by rw [H3.out]; rfl, hB1⟩
  | true =>
    have HI := hide hI
    cases hQ : inR b 1 3 with
    | false =>
      have HQ := hide hQ
      have H3 : Hid (burnLeastL xs b = -1) := hide (by unfold burnLeastL burnFit; rw [hQ]; simp)
      clear hI hQ
      go_enter Tryd.func38, Tryd.ntmps38
      go_wp2_with fail
      refine (specSpansValid_any _ _ _ _ hA hl).mono ?_
      rintro e w1 ⟨rfl, hB1⟩
      rw [HI.out]
      go_wp2_with fail
      refine (l1In_is _ _ _ _ HQ _).mono ?_
      rintro e w' ⟨rfl, rfl⟩
      go_wp2_with fail
      go_ret
      exact ⟨by rw [H3.out]; rfl, hB1⟩
    | true =>
      have HQ := hide hQ
      obtain ⟨n, rfl, hn1, hn3⟩ : ∃ n : Nat, b = n ∧ 1 ≤ n ∧ n ≤ 3 := ⟨b.toNat, by have := inR_iff.1 hQ; omega, by have := inR_iff.1 hQ; omega, by have := inR_iff.1 hQ; omega⟩
      have h6 := spansOk_len hI
      have hF : burnFit xs n = true := by unfold burnFit; rw [hI, hQ]; rfl
      have HF := hide hF
      have H3 : Hid (bestTo (fun m => burnEndL xs n (digs n xs.length m)) (n ^ xs.length) = burnLeastL xs n) := hide (best_is_least hF hn1)
      obtain ⟨E, hE⟩ : ∃ E : Nat → Int, (fun m => burnEndL xs n (digs n xs.length m)) = E := ⟨_, rfl⟩
      have HE : Hid (∀ m, burnEndL xs n (digs n xs.length m) = E m ∧ 0 ≤ E m ∧ E m ≤ 180) := hide (fun m => by
        have e : E m = burnEndL xs n (digs n xs.length m) := by rw [← hE]
        rw [e]
        exact ⟨rfl, burnEnd_nn (digs_ok hF hn1 m)⟩)
      rw [hE] at H3
      have HPW : Hid (∀ k, k ≤ 6 → n ^ k ≤ 729) := hide (fun k hk => Nat.le_trans (Nat.pow_le_pow_right hn1 hk) (Nat.le_trans (Nat.pow_le_pow_left hn3 6) (by decide)))
      clear hI hQ hF hE
      go_enter Tryd.func38, Tryd.ntmps38
      go_wp2_with fail
      refine (specSpansValid_any _ _ _ _ hA hl).mono ?_
      rintro e w0 ⟨rfl, hB1⟩
      rw [HI.out]
      go_wp2_with fail
      refine (l1In_is _ _ _ _ HQ _).mono ?_
      rintro e w1 ⟨rfl, rfl⟩
      have HA1 := hide hA
      clear hA
      go_wp2_with fail
      go_loopw [6, 7] (fun av i wr => ∃ (k a : Nat), k ≤ xs.length ∧ i = .int .i64 k ∧ av = .int .i64 a ∧ a ≤ 729 ∧ Hid (a = n ^ k) ∧ wr = w1) (fun _ i _ => xs.length - (intOf i).toNat)
      case atStart => exact ⟨0, 1, Nat.zero_le _, rfl, rfl, by omega, hide rfl, rfl⟩
      case round =>
        obtain ⟨k, a, hk, rfl, rfl, ha, HK, rfl⟩ := hrel
        by_cases hlt : k < xs.length
        · have hz : (0 : Int) ≤ k := by omega
          have hz2 : (k : Int) < xs.length := by omega
          obtain ⟨a2, ha2⟩ : ∃ a2 : Nat, a * n = a2 := ⟨_, rfl⟩
          have HK2 : Hid (a2 = n ^ (k + 1)) := hide (by rw [← ha2, HK.out, Nat.pow_succ])
          have ha3 : a2 ≤ 729 := by have := HPW.out (k + 1) (by omega); have := HK2.out; omega
          have hm : (a : Int) * n = a2 := by rw [← ha2]; simp
          go_wp2_with fail
          go_roundw
          case rel => exact ⟨k + 1, a2, hlt, by go_num, by first | rfl | go_num, ha3, HK2, trivial⟩
          case measure => simp [intOf]; omega
        · obtain rfl : k = xs.length := by omega
          have hz2 : ¬ ((xs.length : Int) < xs.length) := by omega
          go_wp2_with fail
          go_loopw [5, 8] (fun bv i wi => ∃ (m : Nat) (t : Int), m ≤ a ∧ i = .int .i64 m ∧ bv = .int .i64 t ∧ -1 ≤ t ∧ t ≤ 180 ∧ Hid (t = bestTo E m) ∧ Below w.heap.size w wi) (fun _ i _ => a - (intOf i).toNat)
          case atStart => exact ⟨0, -1, Nat.zero_le _, rfl, rfl, by omega, by omega, hide rfl, hB1⟩
          case round =>
            obtain ⟨m, t, hm, rfl, rfl, ht0, ht1, HT, hb⟩ := hrel
            have hsz := hb.size
            by_cases hmt : m < a
            · have hz : (0 : Int) ≤ m := by omega
              have hz3 : (m : Int) < a := by omega
              obtain ⟨wo, rfl⟩ : ∃ wo : World, wo = wr := ⟨_, rfl⟩
              have HO : Hid (IntSl (wo.alloc (.cells #[] 3)) w.heap.size (.slice (some ⟨wo.heap.size, 0, none⟩) 0 0) []) := hide (World.ownsRow_lit wo #[] 0 hsz (by unfold maxLen; omega) rfl)
              have HOW : Hid (Below w.heap.size w (wo.alloc (.cells #[] 3))) := hide (by go_grown)
              clear hb
              go_wp2_with fail
              go_loopw [9, 10, 11] (fun ov rv i wi => ∃ (k r L : Nat) (Ao : Option Addr) (co : Nat) (out : List Int), k ≤ xs.length ∧ i = .int .i64 k ∧ rv = .int .i64 r ∧ r ≤ 729 ∧ ov = .slice Ao L co ∧ L = k ∧ Hid (out.length = k ∧ digs n xs.length m = out ++ digs n (xs.length - k) r) ∧ IntSl wi w.heap.size (.slice Ao L co) out ∧ Below w.heap.size w wi) (fun _ _ i _ => xs.length - (intOf i).toNat)
              case atStart => exact ⟨0, m, 0, _, _, [], Nat.zero_le _, rfl, rfl, by omega, rfl, rfl, hide ⟨rfl, rfl⟩, HO.out, HOW.out⟩
              case round =>
                clear HO HOW
                obtain ⟨k, r, L, Ao, co, out, hk, rfl, rfl, hr, rfl, rfl, HD, hS, hb⟩ := hrel
                have hsz2 := hb.size
                by_cases hlt : L < xs.length
                · have hz4 : (0 : Int) ≤ L := by omega
                  have hz5 : (L : Int) < xs.length := by omega
                  have hz6 : (0 : Int) ≤ r := by omega
                  have hz7 : (0 : Int) < n := by omega
                  have hr2 : r / n ≤ 729 := Nat.le_trans (Nat.div_le_self _ _) hr
                  have hol : out.length ≤ 1048576 := by have := HD.out.1; omega
                  obtain ⟨q, hq⟩ : ∃ q : Nat, r % n = q := ⟨_, rfl⟩
                  obtain ⟨r2, hr3⟩ : ∃ r2 : Nat, r / n = r2 := ⟨_, rfl⟩
                  have hqe : (r : Int) % n = q := by rw [← hq]; rfl
                  have hre : (r : Int) / n = r2 := by rw [← hr3]; rfl
                  have HD2 : Hid ((out ++ [(q : Int)]).length = L + 1 ∧ digs n xs.length m = (out ++ [(q : Int)]) ++ digs n (xs.length - (L + 1)) r2) := hide ⟨by rw [List.length_append, HD.out.1]; rfl, by
                    rw [HD.out.2, show xs.length - L = (xs.length - (L + 1)) + 1 from by omega, digs, hq, hr3]
                    simp⟩
                  rw [hr3] at hr2
                  have HSA := hide (World.ownsRow.alloc hS (.cells #[.int .i64 q] 3))
                  have HBA := hide (hb.alloc hsz2 (.cells #[.int .i64 q] 3))
                  have HLT := hide (World.ownsRow.lt hS)
                  clear hS hq hr3
                  go_wp2_with (at_builtin; refine wpList_push_int rfl _ _ rfl w.heap.size (.slice Ao L co) out rfl HSA.out wr.heap.size (q : Int) rfl (heap_alloc_new wr _) hol (by simp; omega) ?_; intro g5 cap w5 hown hgrow hnew)
                  have hb5 : Below w.heap.size w w5 := HBA.out.grown hgrow (by simp; omega) (fun k hk => (HLT.out k hk).1)
                  have hov : out.length + 1 = L + 1 := by rw [HD.out.1]
                  clear hgrow hnew
                  go_wp2_with fail
                  go_roundw
                  case rel => exact ⟨L + 1, r2, out.length + 1, _, cap, out ++ [(q : Int)], hlt, by go_num, by first | rfl | go_num, hr2, rfl, hov, HD2, by simpa using hown, hb5⟩
                  case measure => simp [intOf]; omega
                · have hl0 : xs.length = L := by omega
                  have HD3 : Hid (digs n xs.length m = out) := hide (by rw [HD.out.2, show xs.length - L = 0 from by omega, digs, List.append_nil])
                  have hBE := specBurnEnd_any A Ao c co xs n out wr (HA1.out.below hb) hl hS.ints (by have := HD.out.1; omega)
                  rw [HD.out.1, ← HD3.out, (HE.out m).1] at hBE
                  obtain ⟨E0, E1⟩ := (HE.out m).2
                  obtain ⟨v, hv⟩ : ∃ v, E m = v := ⟨_, rfl⟩
                  rw [hv] at hBE E0 E1
                  have HBE := hide hBE
                  have HEM := hide hv
                  have hz5 : ¬ (L : Int) < xs.length := by omega
                  clear hBE hv hS hl0
                  go_wp2_with fail
                  refine HBE.out.mono ?_
                  rintro e w5 ⟨rfl, hB5⟩
                  have hb5 := next hb hB5
                  clear HBE hB5 hb
                  by_cases hc1 : t < 0
                  · have hd : decide (t < 0) = true := decide_eq_true hc1
                    have HT2 : Hid (v = bestTo E (m + 1)) := hide (by rw [bestTo, ← HT.out, HEM.out, hd]; rfl)
                    go_wp2_with fail
                    go_roundw
                    case rel => exact ⟨m + 1, v, hmt, by go_num, rfl, by omega, E1, HT2, hb5⟩
                    case measure => simp [intOf]; omega
                  · have hd : decide (t < 0) = false := decide_eq_false hc1
                    by_cases hc2 : v < t
                    · have hd2 : decide (v < t) = true := decide_eq_true hc2
                      have HT2 : Hid (v = bestTo E (m + 1)) := hide (by rw [bestTo, ← HT.out, HEM.out, hd, hd2]; rfl)
                      go_wp2_with fail
                      go_roundw
                      case rel => exact ⟨m + 1, v, hmt, by go_num, rfl, by omega, E1, HT2, hb5⟩
                      case measure => simp [intOf]; omega
                    · have hd2 : decide (v < t) = false := decide_eq_false hc2
                      have HT2 : Hid (t = bestTo E (m + 1)) := hide (by rw [bestTo, ← HT.out, HEM.out, hd, hd2]; rfl)
                      go_wp2_with fail
                      go_roundw
                      case rel => exact ⟨m + 1, t, hmt, by go_num, rfl, ht0, ht1, HT2, hb5⟩
                      case measure => simp [intOf]; omega
            · have H4 : Hid (burnLeastL xs n = t) := hide (by
                obtain rfl : m = a := by omega
                rw [← H3.out, HT.out, HK.out])
              have hz3 : ¬ (m : Int) < a := by omega
              go_wp2_with fail
              go_ret
              exact ⟨by rw [H4.out]; rfl, hb⟩
end Go.Proofs.YteloapholoechaaDoor
