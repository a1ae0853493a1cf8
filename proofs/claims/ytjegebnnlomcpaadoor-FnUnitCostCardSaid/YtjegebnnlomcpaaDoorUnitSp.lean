/- UnitSp: contract of UnitCost of the reference model.
   Conditions: none. -/
import Derived.Test.YtjegebnnlomcpaaDoorUnitP
import Derived.Test.YtjegebnnlomcpaaDoorLots
import Derived.BigRegion
namespace Go.Proofs.YtjegebnnlomcpaaDoor
open Go.RowKit Go.ChangeShapes Go.WideShapes Go.ChangeAt Go.Deep

theorem FracSl.below {w w' : World} {lo : Nat} {v : Value} {cs : List (Nat × Nat)} (h : FracSl w lo v cs) (hb : Below w.heap.size w w') : FracSl w' lo v cs := ownsRow_below h hb
theorem fbox_put {W : World} {X : Nat} {t : TypeId} {a b u v : Value} (h : W.heap[X]? = some (.cells #[a, b] t (0, 0))) : ((W.setCell ⟨X, 0, none⟩ u).setCell ⟨X, 1, none⟩ v).heap[X]? = some (.cells #[u, v] t (0, 0)) := by
  rw [heap_setCell_same _ X 1 _ _ _ (heap_setCell_same _ X 0 _ _ _ h)]
  rfl
theorem fbox_new (w : World) (t : TypeId) (a b u v : Value) : (((w.alloc (.cells #[a, b] t)).setCell ⟨w.heap.size, 0, none⟩ u).setCell ⟨w.heap.size, 1, none⟩ v).heap[w.heap.size]? = some (.cells #[u, v] t (0, 0)) ∧
    Below w.heap.size w (((w.alloc (.cells #[a, b] t)).setCell ⟨w.heap.size, 0, none⟩ u).setCell ⟨w.heap.size, 1, none⟩ v) :=
  ⟨fbox_put (heap_alloc_new w _), (((Below.refl _ _).alloc (Nat.le_refl _) _).setCell (Nat.le_refl _) _).setCell (Nat.le_refl _) _⟩
theorem fbelow_set2 {w W : World} {b X : Nat} {u v : Value} (h : Below b w W) (hX : b ≤ X) : Below b w ((W.setCell ⟨X, 0, none⟩ u).setCell ⟨X, 1, none⟩ v) := (h.setCell hX _).setCell hX _
theorem heap_ltU {w : World} {X : Nat} {o : Obj} (h : w.heap[X]? = some o) : X < w.heap.size := (Array.getElem?_eq_some_iff.1 h).1
theorem step_push_frac {W : World} {ops : Array Oper} {o : Oper} {a : Act} {K : Act → World → Prop} {Q : Exit → Act → World → Prop} {E : Prop} (hgd : o.guard = none) (s x : Operand)
    (ho : o.op = .call { callee := .builtin .append, args := #[s, x], argTypes := #[48, 48] }) (lo : Nat) (v : Value) (cs : List (Nat × Nat)) (hs : a.eval s = v) (hown : FracSl W lo v cs) (g : Nat) (y : Nat × Nat)
    (hx : a.eval x = .slice (some ⟨g, 0, none⟩) 1 1) (hg : W.heap[g]? = some (.cells #[.int .i64 (y.1 : Nat), .int .i64 (y.2 : Nat)] 28 (0, 0))) (hn : cs.length ≤ 1048576) (hlo : lo ≤ W.heap.size)
    (h : ∀ g' cap w', FracSl w' lo (.slice (some ⟨g', 0, none⟩) (cs.length + 1) cap) (cs ++ [y]) → W.grownBy w' v.ownBlock → K (a.put o.dst (.slice (some ⟨g', 0, none⟩) (cs.length + 1) cap)) w') :
    if Region.wanted o (yielded ops a.tmps) = true then Oper.wp Tryd.prog o a W K Q else E := by
  obtain ⟨i0, hi, hz0, hz1, hz2⟩ := info_parts infoFrac
  refine step_append_lies W hgd s x 48 ho lo 28 i0 _ 2 16 Tryd.underlying48 hi hz0 hz1 hz2 rfl (by decide) v cs.length (fracCells cs) hs hown ⟨g, 0, none⟩ 1 1 [.int .i64 (y.1 : Nat), .int .i64 (y.2 : Nat)] hx rfl
    (World.news_of_block (cs := #[.int .i64 (y.1 : Nat), .int .i64 (y.2 : Nat)]) hg) (fun u hu => by
      simp only [List.mem_cons, List.not_mem_nil, or_false] at hu
      rcases hu with rfl | rfl <;> rfl) (by decide) (by unfold maxLen; omega) (by omega) hlo _ rfl ?_
  intro g' cap w' h1 h2 _ _
  refine h g' cap w' ?_ h2
  unfold FracSl
  rw [List.length_append, fracCells_append]
  exact h1
/-- The bounds of one part more in the model's sum. -/
theorem sumS_bounds {C T y q j x1 m a b : Nat} (hC : C ≤ 2099520) (hT0 : 0 < T) (hT : T ≤ 1296) (hj : j < 3) (hy0 : 0 < y) (hy : y ≤ 6) (hq0 : 0 < q) (hq : q ≤ 1296 ^ j) (hx : x1 ≤ 6 * C * j * q) (hb0 : 0 < b) (hb : b ∣ T) (hm : m ≤ 6) (ha : a ≤ C * b) :
    x1 * b ≤ 9000000000000000000 ∧ m * a ≤ 9000000000000000000 ∧ m * a * (y * q) ≤ 9000000000000000000 ∧ m * a * (y * q) / y = m * a * q ∧ x1 * b + m * a * q ≤ 9000000000000000000 ∧ y * q * b ≤ 9000000000000000000 ∧
      0 < q * b ∧ q * b ≤ 1296 ^ (j + 1) ∧ x1 * b + m * a * q ≤ 6 * C * (j + 1) * (q * b) ∧ y * q * b = y * (q * b) := by
  obtain ⟨s1, s2⟩ := sumS_step (K := 6 * C * j) (q := q) (x1 := x1) hy0 hm ha hx
  have hb2 : b ≤ 1296 := Nat.le_trans (Nat.le_of_dvd hT0 hb) hT
  have hqj : q ≤ 1679616 := Nat.le_trans hq (Nat.le_trans (Nat.pow_le_pow_right (by omega) (show j ≤ 2 by omega)) (by decide))
  have h6 : 6 * C * j ≤ 25194240 := Nat.le_trans (Nat.mul_le_mul (Nat.mul_le_mul_left 6 hC) (show j ≤ 2 by omega)) (by decide)
  have hx1 : x1 ≤ 42316648611840 := Nat.le_trans hx (Nat.le_trans (Nat.mul_le_mul h6 hqj) (by decide))
  have b1 : x1 * b ≤ 54842376600944640 := Nat.le_trans (Nat.mul_le_mul hx1 hb2) (by decide)
  have ha1 : a ≤ 2720977920 := Nat.le_trans ha (Nat.mul_le_mul hC hb2)
  have b2 : m * a ≤ 16325867520 := Nat.mul_le_mul hm ha1
  have hyq : y * q ≤ 10077696 := Nat.mul_le_mul hy hqj
  have b3 : m * a * (y * q) ≤ 164527129828392960 := Nat.le_trans (Nat.mul_le_mul b2 hyq) (by decide)
  have b4 : m * a * q ≤ 164527129828392960 := Nat.le_trans (Nat.mul_le_mul b2 (Nat.le_trans hqj (show 1679616 ≤ 10077696 by omega))) (by decide)
  have b5 : y * q * b ≤ 13060694016 := Nat.mul_le_mul hyq hb2
  refine ⟨by omega, by omega, by omega, s1, by omega, by omega, Nat.mul_pos hq0 hb0, ?_, ?_, Nat.mul_assoc _ _ _⟩
  · rw [Nat.pow_succ]; exact Nat.mul_le_mul hq hb2
  · rw [show 6 * C * (j + 1) = 6 * C * j + 6 * C from by rw [Nat.mul_add, Nat.mul_one]]; exact s2

set_option maxRecDepth 100000 in
set_option maxHeartbeats 4000000 in
theorem specUnitCost_any (A A' : Option Addr) (c c' : Nat) (l : List Item) (ps : List Int) (idx : Int) (w : World) (hA : ItemsAt w A l) (hl : l.length ≤ 1048576) (hp : ∀ x ∈ l, x.parts.length ≤ 1048576) (hX : IntsAt w A' ps) (hx : ps.length ≤ 1048576) :
    Calls Tryd.prog 6 #[.slice A l.length c, .slice A' ps.length c', .int .i64 idx] w fun e w' =>
      e = .returned (.tuple #[.agg #[.int .i64 ((unitL l ps idx).1.1 : Nat), .int .i64 ((unitL l ps idx).1.2 : Nat)], .bool (unitL l ps idx).2]) ∧ Below w.heap.size w w' := by
  have HP := hide hp
  clear hp
  have hba : Below w.heap.size w (w.alloc (.cells #[.int .i64 0, .int .i64 0] 28)) := by go_grown
  have HA0 := hide (hA.below hba)
  have HX0 := hide (hX.below hba)
  have HAw := hide hA
  have HXw := hide hX
  have HBX0 : Hid ((w.alloc (.cells #[.int .i64 0, .int .i64 0] 28)).heap[w.heap.size]? = some (.cells #[.int .i64 0, .int .i64 0] 28 (0, 0))) := hide (heap_alloc_new w _)
  clear hA hX
  obtain ⟨u, HU⟩ : ∃ u, Hid (unitL l ps idx = u) := ⟨_, hide rfl⟩
  rw [HU.out]
  go_enter Tryd.func6, Tryd.ntmps6
  go_wp2_with fail
  refine (specPricesValid_any _ _ _ _ _ _ _ HA0.out hl HP.out HX0.out hx).mono ?_
  rintro e w1 ⟨rfl, hB1⟩
  have hb1 := next hba hB1
  have HBX1 := hide ((hB1.block w.heap.size (by simp)).trans HBX0.out)
  have c0 : w1.cell? ⟨w.heap.size, 0, none⟩ = some (.int .i64 0) := by rw [cell_of_row _ _ 0 _ _ _ HBX1.out]; rfl
  have c1 : w1.cell? ⟨w.heap.size, 1, none⟩ = some (.int .i64 0) := by rw [cell_of_row _ _ 1 _ _ _ HBX1.out]; rfl
  have g0 := frozen_of_row w1 w.heap.size 0 _ _ HBX1.out
  have g1 := frozen_of_row w1 w.heap.size 1 _ _ HBX1.out
  have hbe := (hb1.setCell (p := ⟨w.heap.size, 0, none⟩) (Nat.le_refl _) (.int .i64 0)).setCell (p := ⟨w.heap.size, 1, none⟩) (Nat.le_refl _) (.int .i64 0)
  obtain ⟨f0, f1⟩ := frac_set (u := .int .i64 0) (v := .int .i64 0) HBX1.out
  have HE := hide (And.intro hbe (And.intro f0 f1))
  clear hbe f0 f1
  cases hok : pricesOk l ps with
  | false =>
    have hu : u = ((0, 0), false) := by rw [← HU.out]; exact unit_no (by rw [hok]; rfl)
    subst hu
    have HOK := hide hok
    clear hok
    go_wp2_with fail
    obtain ⟨hbe, f0, f1⟩ := HE.out
    exact bodyPost_ret (v := .tuple #[.agg #[.int .i64 0, .int .i64 0], .bool false]) (by simp [results, Tryd.results6, go_sem, f0, f1]) rfl ⟨rfl, hbe⟩
  | true =>
    have HOK := hide hok
    clear hok
    have h6 : l.length ≤ 6 := by
      have := HOK.out
      unfold pricesOk itemsOk at this
      simp only [Bool.and_eq_true, decide_eq_true_eq] at this
      exact this.1.1
    have HIO : Hid (itemsOk l = true ∧ rangeOk 20 ps = true ∧ ps.length = l.length) := hide (by
      have := HOK.out
      unfold pricesOk at this
      simp only [Bool.and_eq_true, decide_eq_true_eq] at this
      exact ⟨this.1, this.2.2, by omega⟩)
    obtain ⟨β, hβ⟩ : ∃ β, inR idx 0 ((l.length : Int) - 1) = β := ⟨_, rfl⟩
    have HIR := hide (fun W => l1In_is idx 0 ((l.length : Int) - 1) β (hide hβ) W)
    have HBT := hide hβ
    clear hβ
    go_wp2_with fail
    refine (HIR.out w1).mono ?_
    rintro e w2 ⟨rfl, h12⟩
    have h12 : w2 = w1 := by first | exact h12 | exact h12.symm
    subst w2
    cases β with
    | false =>
      have hu : u = ((0, 0), false) := by rw [← HU.out]; exact unit_no (by rw [HBT.out]; simp)
      subst hu
      go_wp2_with fail
      obtain ⟨hbe, f0, f1⟩ := HE.out
      exact bodyPost_ret (v := .tuple #[.agg #[.int .i64 0, .int .i64 0], .bool false]) (by simp [results, Tryd.results6, go_sem, f0, f1]) rfl ⟨rfl, hbe⟩
    | true =>
      have hir := inR_iff.1 HBT.out
      obtain ⟨q, rfl⟩ : ∃ q : Nat, idx = q := ⟨idx.toNat, by omega⟩
      have hq6 : q + 1 ≤ l.length := by omega
      have HUU : Hid (u = ((unitsN l ps (q + 1)).getD q (0, 0), true)) := hide (by rw [← HU.out]; unfold unitL; rw [HOK.out, HBT.out, if_pos (by rfl), Int.toNat_natCast])
      have hzw : w.heap.size < w1.heap.size := heap_ltU HBX1.out
      have HB1 : Hid (Below w.heap.size w w1 ∧ w.heap.size < w1.heap.size) := hide ⟨hb1, hzw⟩
      have HO1 : Hid (FracSl (w1.alloc (.cells #[] 28)) w1.heap.size (.slice (some ⟨w1.heap.size, 0, none⟩) 0 0) (unitsN l ps 0)) := hide (World.ownsRow_lit w1 #[] 0 (Nat.le_refl _) (by unfold maxLen; omega) rfl)
      have HB2 : Hid (Below w.heap.size w (w1.alloc (.cells #[] 28))) := hide (hb1.alloc hb1.size _)
      have HBX2 : Hid ((w1.alloc (.cells #[] 28)).heap[w.heap.size]? = some (.cells #[.int .i64 0, .int .i64 0] 28 (0, 0))) := hide ((heap_alloc_old w1 _ hzw).trans HBX1.out)
      clear c0 c1 g0 g1 HE hir HBX0 HBX1 hb1 hba HA0 HX0 hB1
      go_wp2_with fail
      go_loopw [8, 9] (fun v iv wr => ∃ k g cp : Nat, k ≤ q + 1 ∧ iv = .int .i64 k ∧ v = .slice (some ⟨g, 0, none⟩) k cp ∧ Hid (FracSl wr w1.heap.size (.slice (some ⟨g, 0, none⟩) k cp) (unitsN l ps k)) ∧ Hid (wr.heap[w.heap.size]? = some (.cells #[.int .i64 0, .int .i64 0] 28 (0, 0))) ∧ Below w.heap.size w wr) (fun _ iv _ => q + 1 - (intOf iv).toNat)
      case atStart => exact ⟨0, _, 0, Nat.zero_le _, rfl, rfl, HO1, HBX2, HB2.out⟩
      case round =>
        clear HO1 HBX2 HB2
        obtain ⟨k, g, cp, hk, rfl, rfl, HS, HBX, hb⟩ := hrel
        by_cases hkn : k < q + 1
        · have hk0 : (0 : Int) ≤ k := by omega
          have hk1 : (k : Int) ≤ q := by omega
          have hk2 : (k : Int) < l.length := by omega
          have hk3 : (k : Int) < ps.length := by rw [HIO.out.2.2]; exact hk2
          obtain ⟨p, hp⟩ : ∃ p, ps[k]? = some p := ⟨_, List.getElem?_eq_getElem (by rw [HIO.out.2.2]; omega)⟩
          obtain ⟨t, ht⟩ : ∃ t, l[k]? = some t := ⟨_, List.getElem?_eq_getElem (by omega)⟩
          have hpr := rangeOk_at HIO.out.2.1 hp
          obtain ⟨pn, rfl⟩ : ∃ pn : Nat, p = pn := ⟨p.toNat, by omega⟩
          have HUN : Hid (unitsN l ps (k + 1) = unitsN l ps k ++ [unitOf (unitsN l ps k) t (pn : Int)]) := hide (by rw [unitsN, List.getD_eq_getElem?_getD, List.getD_eq_getElem?_getD, ht, hp]; rfl)
          obtain ⟨pb, po, rfl, hpl, hpc⟩ := (HXw.out.below hb) k pn hp
          have HTT := hide ht
          have hpn : pn ≤ 20 := by omega
          clear ht hp hpr
          obtain ⟨wo, ho⟩ : ∃ wo, wo = wr := ⟨_, rfl⟩
          subst ho
          go_upto_region 8 with fail
          obtain ⟨W, hW⟩ : ∃ W, wo.alloc (.cells #[.int .i64 (pn : Int), .int .i64 1] 28) = W := ⟨_, rfl⟩
          have HVX : Hid (W.heap[wo.heap.size]? = some (.cells #[.int .i64 (pn : Int), .int .i64 1] 28 (0, 0))) := hide (by rw [← hW]; exact heap_alloc_new wo _)
          have HVB : Hid (Below wo.heap.size wo W) := hide (by rw [← hW]; exact (Below.refl _ _).alloc (Nat.le_refl _) _)
          rw [hW]
          clear hW
          have hbW := hb.trans (HVB.out.mono hb.size)
          obtain ⟨tb, too, Aq, cq, rfl, htl, t0, t1, t2, htp⟩ := HAw.out k t HTT.out
          obtain ⟨h1, h2, hy0, hy1, hpl3, hyp, hpo⟩ := itemsOk_at HIO.out.1 HTT.out
          have HTP := hide htp
          have HPO := hide (And.intro hyp hpo)
          clear htp hyp hpo h1 h2
          obtain ⟨y, hy⟩ : ∃ y, t.yield = y := ⟨_, rfl⟩
          rw [hy] at t0 hy0 hy1 HPO
          have HTC := hide (And.intro t0 t1)
          have v0 := (hbW.cell htl).trans t0
          clear t0 t1 t2 hbW
          by_cases hyy : 0 < y
          · obtain ⟨C, T, hC, hT0, hT, HUO⟩ : ∃ C T, C ≤ 2099520 ∧ 0 < T ∧ T ≤ 1296 ∧ Hid (UnitsOk C T (unitsN l ps k)) := unit_bounds HIO.out.1 HIO.out.2.1 HIO.out.2.2 (by omega) (by
              rcases Nat.eq_zero_or_pos k with e | e
              · exfalso
                have : t.parts = [] := by
                  cases e9 : t.parts with
                  | nil => rfl
                  | cons q r =>
                    have := HPO.out.2 q (by rw [e9]; simp)
                    omega
                have := HPO.out.1.2 this
                omega
              · exact e) (by omega)
            obtain ⟨yn, rfl⟩ : ∃ yn : Nat, y = yn := ⟨y.toNat, by omega⟩
            have hyn : 0 < yn := by omega
            have hyd : decide (0 < yn) = true := decide_eq_true hyn
            obtain ⟨n, hn⟩ : ∃ n, t.parts.length = n := ⟨_, rfl⟩
            rw [hn] at HTC hpl3
            have HN := hide hn
            obtain ⟨qs, HQS⟩ : ∃ qs, Hid (partsN (unitsN l ps k) t.parts = qs) := ⟨_, hide rfl⟩
            have HQL : Hid (qs.length = n) := hide (by rw [← HQS.out]; unfold partsN; rw [List.length_map]; exact HN.out)
            have HQP : Hid (∀ z ∈ qs, 0 < z.2.2 ∧ z.2.2 ∣ T ∧ z.1 ≤ 6 ∧ z.2.1 ≤ C * z.2.2) := hide (by rw [← HQS.out]; exact parts_ok HUO.out (fun z hz => by rw [unitsN_len]; exact HPO.out.2 z hz))
            have x0 : W.cell? ⟨wo.heap.size, 0, none⟩ = some (.int .i64 (pn : Int)) := by rw [cell_of_row _ _ 0 _ _ _ HVX.out]; rfl
            have x1 : W.cell? ⟨wo.heap.size, 1, none⟩ = some (.int .i64 1) := by rw [cell_of_row _ _ 1 _ _ _ HVX.out]; rfl
            have g0 := frozen_of_row W wo.heap.size 0 _ _ HVX.out
            have g1 := frozen_of_row W wo.heap.size 1 _ _ HVX.out
            have HX2 := hide (fbox_put (u := .int .i64 0) (v := .int .i64 (yn : Int)) HVX.out)
            have HB2 := hide (fbelow_set2 (X := wo.heap.size) (u := .int .i64 0) (v := .int .i64 (yn : Int)) HVB.out (Nat.le_refl _))
            clear hn HVX HVB
            go_wp2_with fail
            clear x0 x1 g0 g1 v0
            go_loopw [11] (fun jv wr => ∃ (j : Nat) (x : Nat × Nat) (qd : Nat), j ≤ n ∧ jv = .int .i64 j ∧ Hid (sumS yn (0, yn) qs = sumS yn x (qs.drop j)) ∧ Hid (x.2 = yn * qd ∧ 0 < qd ∧ qd ≤ 1296 ^ j ∧ x.1 ≤ 6 * C * j * qd) ∧
                Hid (wr.heap[wo.heap.size]? = some (.cells #[.int .i64 (x.1 : Nat), .int .i64 (x.2 : Nat)] 28 (0, 0))) ∧ Hid (Below wo.heap.size wo wr)) (fun jv _ => n - (intOf jv).toNat)
            case atStart => exact ⟨0, (0, yn), 1, Nat.zero_le _, rfl, hide rfl, hide ⟨by simp, by omega, by simp, by simp⟩, HX2, HB2⟩
            case round =>
              obtain ⟨j, ⟨x1, x2⟩, qd, hj, rfl, HSU, HXB, HVX, HVB⟩ := hrel
              have hbi := hb.trans (HVB.out.mono hb.size)
              have v0 := (hbi.cell htl).trans HTC.out.1
              have v1 := (hbi.cell htl).trans HTC.out.2
              by_cases hjn : j < n
              · obtain ⟨p, hp⟩ : ∃ p, t.parts[j]? = some p := ⟨_, List.getElem?_eq_getElem (by rw [HN.out]; exact hjn)⟩
                obtain ⟨hq0, hq1, hq2, hq3⟩ := HPO.out.2 p (List.mem_of_getElem? hp)
                obtain ⟨i, mn, hi, hmn⟩ : ∃ i mn : Nat, p.of = i ∧ p.many = mn := ⟨p.of.toNat, p.many.toNat, by omega, by omega⟩
                obtain ⟨⟨a, b⟩, hab⟩ : ∃ c, (unitsN l ps k)[i]? = some c := ⟨_, List.getElem?_eq_getElem (by rw [unitsN_len]; omega)⟩
                have hik : (i : Int) < k := by omega
                have hi0 : (0 : Int) ≤ i := by omega
                have hj0 : (0 : Int) ≤ j := by omega
                have hjn2 : (j : Int) < n := by omega
                have hqk : qs[j]? = some (mn, a, b) := by
                  rw [← HQS.out]
                  unfold partsN
                  rw [List.getElem?_map, hp, Option.map_some, hi, hmn, Int.toNat_natCast, Int.toNat_natCast, List.getD_eq_getElem?_getD, hab]
                  rfl
                have hD : qs.drop j = (mn, a, b) :: qs.drop (j + 1) := by
                  rw [List.drop_eq_getElem_cons (by rw [HQL.out]; exact hjn)]
                  congr 1
                  rw [List.getElem?_eq_getElem (by rw [HQL.out]; exact hjn)] at hqk
                  injection hqk
                obtain ⟨z1, z2, z3, z4⟩ := HQP.out (mn, a, b) (List.mem_of_getElem? hqk)
                obtain ⟨y1, y2, y3, y4⟩ := HXB.out
                have hyp2 : x2 = yn * qd := y1
                have hx1b : x1 ≤ 6 * C * j * qd := y4
                subst hyp2
                obtain ⟨b1, b2, b3, b4, b5, b6, b7, b8, b9, b10⟩ := sumS_bounds (y := yn) (x1 := x1) (m := mn) (a := a) (b := b) hC hT0 hT (show j < 3 by omega) (by omega) (by omega) y2 y3 hx1b z1 z2 z3 z4
                have hS2 : sumS yn (0, yn) qs = sumS yn (x1 * b + mn * a * qd, yn * (qd * b)) (qs.drop (j + 1)) := by
                  rw [HSU.out, hD, sumS_cons]
                  show sumS yn (x1 * b + mn * a * (yn * qd) / yn, yn * qd * b) (qs.drop (j + 1)) = _
                  rw [b4, b10]
                obtain ⟨n1, hn1⟩ : ∃ n1, x1 * b = n1 := ⟨_, rfl⟩
                obtain ⟨n2, hn2⟩ : ∃ n2, mn * a = n2 := ⟨_, rfl⟩
                obtain ⟨n3, hn3⟩ : ∃ n3, n2 * (yn * qd) = n3 := ⟨_, rfl⟩
                obtain ⟨n4, hn4⟩ : ∃ n4, n2 * qd = n4 := ⟨_, rfl⟩
                obtain ⟨n5, hn5⟩ : ∃ n5, yn * qd * b = n5 := ⟨_, rfl⟩
                rw [hn1] at b1 b5 b9 hS2
                rw [hn2] at b2 b3 b4 b5 b9 hS2
                rw [hn3] at b3 b4
                rw [hn4] at b4 b5 b9 hS2
                rw [hn5] at b6 b10
                rw [← b10] at hS2
                have e1 : (x1 : Int) * (b : Int) = (n1 : Int) := by rw [← hn1]; exact (Int.natCast_mul x1 b).symm
                have e2 : (mn : Int) * (a : Int) = (n2 : Int) := by rw [← hn2]; exact (Int.natCast_mul mn a).symm
                have HST := hide (And.intro hS2 (And.intro b10 (And.intro b7 (And.intro b8 b9))))
                have hi2 : (p : Part) = ⟨(i : Int), (mn : Int)⟩ := by cases p; simp only at hi hmn; rw [hi, hmn]
                subst hi2
                obtain ⟨x2, hx2⟩ : ∃ x2, yn * qd = x2 := ⟨_, rfl⟩
                rw [hx2] at hn3 hn5 HVX
                have e3 : (n2 : Int) * (x2 : Int) = (n3 : Int) := by rw [← hn3]; exact (Int.natCast_mul n2 x2).symm
                have e5 : (x2 : Int) * (b : Int) = (n5 : Int) := by rw [← hn5]; exact (Int.natCast_mul x2 b).symm
                have w1' : IntKind.i64.wrap (n1 : Int) = (n1 : Int) := IntWalk.i64_in _ (by omega)
                have w2' : IntKind.i64.wrap (n2 : Int) = (n2 : Int) := IntWalk.i64_in _ (by omega)
                have w3' : IntKind.i64.wrap (n3 : Int) = (n3 : Int) := IntWalk.i64_in _ (by omega)
                have w6' : IntKind.i64.wrap (n4 : Int) = (n4 : Int) := IntWalk.i64_in _ (by omega)
                have w5' : IntKind.i64.wrap (n5 : Int) = (n5 : Int) := IntWalk.i64_in _ (by omega)
                have w4' : IntKind.i64.wrap ((n1 : Int) + (n4 : Int)) = ((n1 + n4 : Nat) : Int) := by rw [← Int.natCast_add]; exact IntWalk.i64_in _ (by omega)
                have d1 : Int.tdiv (n3 : Int) (yn : Int) = (n4 : Int) := by rw [← b4]; exact (Int.ofNat_tdiv n3 yn).symm
                have d2 : (n3 : Int) / (yn : Int) = (n4 : Int) := by rw [← b4]; exact (Int.natCast_ediv n3 yn).symm
                have d3 : IntKind.i64.wrap (Int.tdiv (n3 : Int) (yn : Int)) = (n4 : Int) := by rw [d1]; exact IntWalk.i64_in _ (by omega)
                have d4 : ¬ (yn : Int) = 0 := by omega
                have d5 : ((yn : Int) == 0) = false := beq_false_of_ne d4
                have d6 : ¬ yn = 0 := by omega
                have HAR := hide (And.intro d1 (And.intro d2 (And.intro d3 (And.intro w4' w5'))))
                obtain ⟨pb2, po2, rfl, hpl2, q0, q1⟩ := (HTP.out.below hbi) j _ hp
                obtain ⟨gb, go, ge, hgl, f0, f1⟩ := (HS.out.below HVB.out).at_ i _ hab
                injection ge with ge
                injection ge with ge1 ge2
                subst ge1 ge2
                rw [Nat.zero_add] at f0 f1
                have xc0 : wr.cell? ⟨wo.heap.size, 0, none⟩ = some (.int .i64 (x1 : Nat)) := by rw [cell_of_row _ _ 0 _ _ _ HVX.out]; rfl
                clear hS2 hD hqk hp hab hn1 hn2 hn3 hn4 hn5 hq0 hq1 hq2 hq3 hi hmn b1 b2 b3 b4 b5 b6 b7 b8 b9 b10 z1 z2 z3 z4 y1 y2 y3 y4 hx1b xc0
                obtain ⟨n14, hn14⟩ : ∃ n14, n1 + n4 = n14 := ⟨_, rfl⟩
                rw [hn14] at w4' HST
                go_upto_region 15 with fail
                obtain ⟨W2, hW2⟩ : ∃ W2, ((wr.alloc (.cells #[.int .i64 (i : Int), .int .i64 (mn : Int)] 52)).alloc (.cells #[.int .i64 (a : Int), .int .i64 (b : Int)] 28)) = W2 := ⟨_, rfl⟩
                have hXw : wo.heap.size < wr.heap.size := heap_ltU HVX.out
                have HBw : Below wr.heap.size wr W2 := by rw [← hW2]; exact ((Below.refl _ _).alloc (Nat.le_refl _) _).alloc (by simp) _
                have hB5 : Below wo.heap.size wo W2 := HVB.out.trans (HBw.mono HVB.out.size)
                have hX5 : W2.heap[wo.heap.size]? = some (.cells #[.int .i64 (x1 : Int), .int .i64 (x2 : Int)] 28 (0, 0)) := (HBw.block wo.heap.size hXw).trans HVX.out
                have r1 : W2.heap[wr.heap.size]? = some (.cells #[.int .i64 (i : Int), .int .i64 (mn : Int)] 52 (0, 0)) := by rw [← hW2, heap_alloc_old _ _ (by simp)]; exact heap_alloc_new wr _
                have r2 : W2.heap[wr.heap.size + 1]? = some (.cells #[.int .i64 (a : Int), .int .i64 (b : Int)] 28 (0, 0)) := by
                  rw [← hW2]
                  have := heap_alloc_new (wr.alloc (.cells #[.int .i64 (i : Int), .int .i64 (mn : Int)] 52)) (.cells #[.int .i64 (a : Int), .int .i64 (b : Int)] 28)
                  simpa using this
                have u0 : W2.cell? ⟨wo.heap.size, 0, none⟩ = some (.int .i64 (x1 : Int)) := by rw [cell_of_row _ _ 0 _ _ _ hX5]; rfl
                have u1 : W2.cell? ⟨wo.heap.size, 1, none⟩ = some (.int .i64 (x2 : Int)) := by rw [cell_of_row _ _ 1 _ _ _ hX5]; rfl
                have u2 : W2.cell? ⟨wr.heap.size, 1, none⟩ = some (.int .i64 (mn : Int)) := by rw [cell_of_row _ _ 1 _ _ _ r1]; rfl
                have u3 : W2.cell? ⟨wr.heap.size + 1, 0, none⟩ = some (.int .i64 (a : Int)) := by rw [cell_of_row _ _ 0 _ _ _ r2]; rfl
                have u4 : W2.cell? ⟨wr.heap.size + 1, 1, none⟩ = some (.int .i64 (b : Int)) := by rw [cell_of_row _ _ 1 _ _ _ r2]; rfl
                have u5 : W2.cell? ⟨tb, too + k * 3, none⟩ = some (.int .i64 (yn : Int)) := ((hb.trans (hB5.mono hb.size)).cell htl).trans HTC.out.1
                have g0 := frozen_of_row W2 wo.heap.size 0 _ _ hX5
                have g1 := frozen_of_row W2 wo.heap.size 1 _ _ hX5
                have HX6 := hide (fbox_put (u := .int .i64 (n14 : Int)) (v := .int .i64 (n5 : Int)) hX5)
                have HB6 := hide (fbelow_set2 (X := wo.heap.size) (u := .int .i64 (n14 : Int)) (v := .int .i64 (n5 : Int)) hB5 (Nat.le_refl _))
                rw [hW2]
                clear hW2 r1 r2 hX5 hB5 HBw hXw v0 v1 q0 q1 f0 f1 hpl2 hgl hbi hn14
                go_wp2_with fail
                refine still_tail_drew 26 (by kernel_rfl) (by kernel_rfl) ?_
                simp only [List.take_succ_cons, List.take_zero, List.drop_succ_cons, List.drop_zero]
                repeat still_step
                refine wpStill_nil ?_
                go_wp2_with fail
                go_roundw
                case rel => 
                  first
                    | exact ⟨j + 1, (n14, n5), qd * b, hjn, by go_num, hide HST.out.1, hide HST.out.2, hide HX6.out, hide HB6.out.drew⟩
                    | exact ⟨_, _, j + 1, (n14, n5), qd * b, hjn, by go_num, hide HST.out.1, hide HST.out.2, hide HX6.out, hide HB6.out.drew⟩
                    | ((repeat apply Exists.intro); refine ⟨⟨j + 1, (n14, n5), qd * b, hjn, ?eqj, hide HST.out.1, hide HST.out.2, hide HX6.out, hide HB6.out.drew⟩, rfl⟩; go_num)
                case measure => simp [intOf]; omega
              · obtain rfl : j = n := by omega
                have hS : sumS yn (0, yn) qs = (x1, x2) := by rw [HSU.out, List.drop_of_length_le (by rw [HQL.out]; exact Nat.le_refl _)]; rfl
                have HVN : Hid (x1 ≤ 9000000000000000000 ∧ x2 ≤ 9000000000000000000 ∧ 0 < x2) := hide (by
                  obtain ⟨y1, y2, y3, y4⟩ := HXB.out
                  have hq := Nat.le_trans y3 (Nat.pow_le_pow_right (show 0 < 1296 by omega) (show j ≤ 3 by omega))
                  have hq2 : qd ≤ 2176782336 := hq
                  have y1' : x2 = yn * qd := y1
                  have y4' : x1 ≤ 6 * C * j * qd := y4
                  have h6 : 6 * C * j ≤ 37791360 := Nat.le_trans (Nat.mul_le_mul (Nat.mul_le_mul_left 6 hC) (show j ≤ 3 by omega)) (by decide)
                  have e1 : x1 ≤ 82263564915240960 := Nat.le_trans y4' (Nat.le_trans (Nat.mul_le_mul h6 hq2) (by decide))
                  have e2 : x2 ≤ 13060694016 := by rw [y1']; exact Nat.mul_le_mul (show yn ≤ 6 by omega) hq2
                  exact ⟨by omega, by omega, by rw [y1']; exact Nat.mul_pos (by omega) y2⟩)
                have HUV : Hid (lowN x1 x2 = unitOf (unitsN l ps k) t (pn : Int)) := hide (by
                  have := unitOf_spec (cs := unitsN l ps k) (x := t) (p := (pn : Int)) (by rw [hy]; omega) (fun z hz => (HQP.out z (by rw [← HQS.out]; exact hz)).1)
                  rw [hy, Int.toNat_natCast, HQS.out, hS] at this
                  exact this)
                clear hS HSU HXB
                have hjn9 : ¬ (j : Int) < j := by omega
                have hc0 : wr.cell? ⟨wo.heap.size, 0, none⟩ = some (.int .i64 (x1 : Int)) := by rw [cell_of_row _ _ 0 _ _ _ HVX.out]; rfl
                have hc1 : wr.cell? ⟨wo.heap.size, 1, none⟩ = some (.int .i64 (x2 : Int)) := by rw [cell_of_row _ _ 1 _ _ _ HVX.out]; rfl
                go_wp2_with fail
                refine (l1Gcd_any x1 x2 wr HVN.out.1 HVN.out.2.1).mono ?_
                rintro e V9 ⟨rfl, h9⟩
                subst V9
                obtain ⟨d, hd⟩ : ∃ d, Nat.gcd x1 x2 = d := ⟨_, rfl⟩
                have hd0 : 0 < d := by rw [← hd]; exact Nat.gcd_pos_of_pos_right x1 HVN.out.2.2
                have hu1 := lowN_div hd
                rw [hd]
                obtain ⟨u1, hu1'⟩ : ∃ u1, x1 / d = u1 := ⟨_, rfl⟩
                obtain ⟨u2, hu2'⟩ : ∃ u2, x2 / d = u2 := ⟨_, rfl⟩
                rw [hu1', hu2'] at hu1
                have HUE : Hid (unitsN l ps (k + 1) = unitsN l ps k ++ [(u1, u2)]) := hide (by rw [HUN.out, ← HUV.out, hu1])
                have hn1 := HVN.out.1
                have hn2 := HVN.out.2.1
                have hq1 : Int.tdiv (x1 : Int) (d : Int) = (u1 : Int) := by rw [← hu1']; exact (Int.ofNat_tdiv x1 d).symm
                have hq2 : Int.tdiv (x2 : Int) (d : Int) = (u2 : Int) := by rw [← hu2']; exact (Int.ofNat_tdiv x2 d).symm
                have he1 : (x1 : Int) / (d : Int) = (u1 : Int) := by rw [← hu1']; exact (Int.natCast_ediv x1 d).symm
                have he2 : (x2 : Int) / (d : Int) = (u2 : Int) := by rw [← hu2']; exact (Int.natCast_ediv x2 d).symm
                have hpu1 : u1 ≤ x1 := by rw [← hu1']; exact Nat.div_le_self _ _
                have hpu2 : u2 ≤ x2 := by rw [← hu2']; exact Nat.div_le_self _ _
                have hw1 : IntKind.i64.wrap (Int.tdiv (x1 : Int) (d : Int)) = (u1 : Int) := by rw [hq1]; exact IntWalk.i64_in _ (by omega)
                have hw2 : IntKind.i64.wrap (Int.tdiv (x2 : Int) (d : Int)) = (u2 : Int) := by rw [hq2]; exact IntWalk.i64_in _ (by omega)
                have hwu1 : IntKind.i64.wrap (u1 : Int) = (u1 : Int) := IntWalk.i64_in _ (by omega)
                have hwu2 : IntKind.i64.wrap (u2 : Int) = (u2 : Int) := IntWalk.i64_in _ (by omega)
                have hdz : ¬ (d : Int) = 0 := by omega
                have hdb : ((d : Int) == 0) = false := beq_false_of_ne hdz
                have hdn : ¬ d = 0 := by omega
                have HVb := hide (hb.trans (HVB.out.mono hb.size))
                have HSV := hide (HS.out.below HVB.out)
                have hVX : wo.heap.size < wr.heap.size := heap_ltU HVX.out
                have hkl : (unitsN l ps k).length ≤ 1048576 := by rw [unitsN_len]; omega
                have HCX : Hid (∀ W9, Below wo.heap.size wo W9 ∧ W9.heap[wo.heap.size]? = some (.cells #[.int .i64 (x1 : Int), .int .i64 (x2 : Int)] 28 (0, 0)) → W9.cell? ⟨wo.heap.size, 0, none⟩ = some (.int .i64 (x1 : Int)) ∧ W9.cell? ⟨wo.heap.size, 1, none⟩ = some (.int .i64 (x2 : Int))) := hide (fun W9 h9 => ⟨by rw [cell_of_row _ _ 0 _ _ _ h9.2]; rfl, by rw [cell_of_row _ _ 1 _ _ _ h9.2]; rfl⟩)
                have HSA : Hid (FracSl (wr.alloc (.cells #[.int .i64 (u1 : Int), .int .i64 (u2 : Int)] 28)).drew w1.heap.size (.slice (some ⟨g, 0, none⟩) k cp) (unitsN l ps k)) := hide (World.ownsRow.alloc HSV.out _)
                have hgl := World.ownsRow.lt HSV.out g rfl
                have hb1' := HB1.out.2
                have hlo9 : w1.heap.size ≤ wr.heap.size := by omega
                have hg4 : g ≠ wo.heap.size := by
                  intro e
                  exact absurd (World.ownsRow.lt HS.out g rfl).2 (by omega)
                have HAP : Hid (∀ W9, (wr.alloc (.cells #[.int .i64 (u1 : Int), .int .i64 (u2 : Int)] 28)).drew.grownBy W9 (Value.slice (some ⟨g, 0, none⟩) k cp).ownBlock → Below w.heap.size w W9 ∧ W9.heap[w.heap.size]? = some (.cells #[.int .i64 0, .int .i64 0] 28 (0, 0)) ∧ W9.cell? ⟨wo.heap.size, 0, none⟩ = some (.int .i64 (x1 : Int)) ∧ W9.cell? ⟨wo.heap.size, 1, none⟩ = some (.int .i64 (x2 : Int))) := hide (fun W9 hg9 => by
                  have hg9' : (wr.alloc (.cells #[.int .i64 (u1 : Int), .int .i64 (u2 : Int)] 28)).drew.grownBy W9 (some g) := hg9
                  have z1 : W9.heap[w.heap.size]? = some (.cells #[.int .i64 0, .int .i64 0] 28 (0, 0)) := (hg9'.block w.heap.size (by simp; have := HVb.out.size; omega) (fun e => by injection e with e; omega)).trans ((heap_alloc_old wr _ (heap_ltU ((HVB.out.block w.heap.size (by have := heap_ltU HBX.out; exact this)).trans HBX.out))).trans ((HVB.out.block w.heap.size (heap_ltU HBX.out)).trans HBX.out))
                  have z2 : W9.heap[wo.heap.size]? = some (.cells #[.int .i64 (x1 : Int), .int .i64 (x2 : Int)] 28 (0, 0)) := (hg9'.block wo.heap.size (by simp; omega) (fun e => by injection e with e; omega)).trans ((heap_alloc_old wr _ hVX).trans HVX.out)
                  exact ⟨(HVb.out.alloc HVb.out.size _).drew.grown hg9 (by simp; have := HVb.out.size; omega) (fun j hj => by have hj : some g = some j := hj; injection hj with hj; omega), z1, by rw [cell_of_row _ _ 0 _ _ _ z2]; rfl, by rw [cell_of_row _ _ 1 _ _ _ z2]; rfl⟩)
                have HC0 : Hid (∀ o : Obj, (wr.alloc o).cell? ⟨wo.heap.size, 0, none⟩ = some (.int .i64 (x1 : Int)) ∧ (wr.alloc o).cell? ⟨wo.heap.size, 1, none⟩ = some (.int .i64 (x2 : Int))) := hide (fun o => by
                  have z2 := (heap_alloc_old wr o hVX).trans HVX.out
                  exact ⟨by rw [cell_of_row _ _ 0 _ _ _ z2]; rfl, by rw [cell_of_row _ _ 1 _ _ _ z2]; rfl⟩)
                have HC1 := hide (And.intro hc0 hc1)
                clear hd hu1 hu1' hu2' hn1 hn2 hgl hb1' hg4
                go_wp2_with fail
                go_region_held3 (fun W => W.cell? ⟨wo.heap.size, 0, none⟩ = some (.int .i64 (x1 : Int)) ∧ W.cell? ⟨wo.heap.size, 1, none⟩ = some (.int .i64 (x2 : Int)))
                  (first | exact HC1.out | exact HC0.out _ | exact (HAP.out _ hgrow).2.2)
                  ((refine step_push_frac (by rfl) _ _ (by rfl) w1.heap.size (.slice (some ⟨g, 0, none⟩) k cp) (unitsN l ps k) (by rfl) HSA.out wr.heap.size (u1, u2) (by rfl) (heap_alloc_new wr _) hkl (by simp; omega) ?_; intro gg cap W9 hown hgrow))
                all_goals
                  have h9 := HAP.out _ hgrow
                  obtain ⟨hb9, hx9, -⟩ := h9
                  have hown9 : FracSl W9 w1.heap.size (.slice (some ⟨gg, 0, none⟩) (k + 1) cap) (unitsN l ps (k + 1)) := by
                    rw [HUE.out]
                    rw [unitsN_len] at hown
                    exact hown
                  rw [unitsN_len]
                  clear hgrow
                  go_wp2_with fail
                  go_roundw
                  case rel => exact ⟨k + 1, gg, cap, hkn, by go_num, rfl, hide hown9, hide hx9, hb9⟩
                  case measure => simp [intOf]; omega
          · have hyz : decide (0 < y) = false := decide_eq_false hyy
            have HVN : Hid (pn ≤ 9000000000000000000 ∧ 1 ≤ 9000000000000000000 ∧ 0 < 1) := hide ⟨by omega, by omega, by omega⟩
            have HUV : Hid (lowN pn 1 = unitOf (unitsN l ps k) t (pn : Int)) := hide (unitOf_bought (p := (pn : Int)) (by rw [hy]; exact hyy))
            have hc0 : W.cell? ⟨wo.heap.size, 0, none⟩ = some (.int .i64 (pn : Int)) := by rw [cell_of_row _ _ 0 _ _ _ HVX.out]; rfl
            have hc1 : W.cell? ⟨wo.heap.size, 1, none⟩ = some (.int .i64 (1 : Int)) := by rw [cell_of_row _ _ 1 _ _ _ HVX.out]; rfl
            go_wp2_with fail
            refine (l1Gcd_any pn 1 W HVN.out.1 HVN.out.2.1).mono ?_
            rintro e V9 ⟨rfl, h9⟩
            subst V9
            obtain ⟨d, hd⟩ : ∃ d, Nat.gcd pn 1 = d := ⟨_, rfl⟩
            have hd0 : 0 < d := by rw [← hd]; exact Nat.gcd_pos_of_pos_right pn HVN.out.2.2
            have hu1 := lowN_div hd
            rw [hd]
            obtain ⟨u1, hu1'⟩ : ∃ u1, pn / d = u1 := ⟨_, rfl⟩
            obtain ⟨u2, hu2'⟩ : ∃ u2, 1 / d = u2 := ⟨_, rfl⟩
            rw [hu1', hu2'] at hu1
            have HUE : Hid (unitsN l ps (k + 1) = unitsN l ps k ++ [(u1, u2)]) := hide (by rw [HUN.out, ← HUV.out, hu1])
            have hn1 := HVN.out.1
            have hn2 := HVN.out.2.1
            have hq1 : Int.tdiv (pn : Int) (d : Int) = (u1 : Int) := by rw [← hu1']; exact (Int.ofNat_tdiv pn d).symm
            have hq2 : Int.tdiv (1 : Int) (d : Int) = (u2 : Int) := by rw [← hu2']; exact (Int.ofNat_tdiv 1 d).symm
            have he1 : (pn : Int) / (d : Int) = (u1 : Int) := by rw [← hu1']; exact (Int.natCast_ediv pn d).symm
            have he2 : (1 : Int) / (d : Int) = (u2 : Int) := by rw [← hu2']; exact (Int.natCast_ediv 1 d).symm
            have hpu1 : u1 ≤ pn := by rw [← hu1']; exact Nat.div_le_self _ _
            have hpu2 : u2 ≤ 1 := by rw [← hu2']; exact Nat.div_le_self _ _
            have hw1 : IntKind.i64.wrap (Int.tdiv (pn : Int) (d : Int)) = (u1 : Int) := by rw [hq1]; exact IntWalk.i64_in _ (by omega)
            have hw2 : IntKind.i64.wrap (Int.tdiv (1 : Int) (d : Int)) = (u2 : Int) := by rw [hq2]; exact IntWalk.i64_in _ (by omega)
            have hwu1 : IntKind.i64.wrap (u1 : Int) = (u1 : Int) := IntWalk.i64_in _ (by omega)
            have hwu2 : IntKind.i64.wrap (u2 : Int) = (u2 : Int) := IntWalk.i64_in _ (by omega)
            have hdz : ¬ (d : Int) = 0 := by omega
            have hdb : ((d : Int) == 0) = false := beq_false_of_ne hdz
            have hdn : ¬ d = 0 := by omega
            have HVb := hide (hb.trans (HVB.out.mono hb.size))
            have HSV := hide (HS.out.below HVB.out)
            have hVX : wo.heap.size < W.heap.size := heap_ltU HVX.out
            have hkl : (unitsN l ps k).length ≤ 1048576 := by rw [unitsN_len]; omega
            have HCX : Hid (∀ W9, Below wo.heap.size wo W9 ∧ W9.heap[wo.heap.size]? = some (.cells #[.int .i64 (pn : Int), .int .i64 (1 : Int)] 28 (0, 0)) → W9.cell? ⟨wo.heap.size, 0, none⟩ = some (.int .i64 (pn : Int)) ∧ W9.cell? ⟨wo.heap.size, 1, none⟩ = some (.int .i64 (1 : Int))) := hide (fun W9 h9 => ⟨by rw [cell_of_row _ _ 0 _ _ _ h9.2]; rfl, by rw [cell_of_row _ _ 1 _ _ _ h9.2]; rfl⟩)
            have HSA : Hid (FracSl (W.alloc (.cells #[.int .i64 (u1 : Int), .int .i64 (u2 : Int)] 28)).drew w1.heap.size (.slice (some ⟨g, 0, none⟩) k cp) (unitsN l ps k)) := hide (World.ownsRow.alloc HSV.out _)
            have hgl := World.ownsRow.lt HSV.out g rfl
            have hb1' := HB1.out.2
            have hlo9 : w1.heap.size ≤ W.heap.size := by omega
            have hg4 : g ≠ wo.heap.size := by
              intro e
              exact absurd (World.ownsRow.lt HS.out g rfl).2 (by omega)
            have HAP : Hid (∀ W9, (W.alloc (.cells #[.int .i64 (u1 : Int), .int .i64 (u2 : Int)] 28)).drew.grownBy W9 (Value.slice (some ⟨g, 0, none⟩) k cp).ownBlock → Below w.heap.size w W9 ∧ W9.heap[w.heap.size]? = some (.cells #[.int .i64 0, .int .i64 0] 28 (0, 0)) ∧ W9.cell? ⟨wo.heap.size, 0, none⟩ = some (.int .i64 (pn : Int)) ∧ W9.cell? ⟨wo.heap.size, 1, none⟩ = some (.int .i64 (1 : Int))) := hide (fun W9 hg9 => by
              have hg9' : (W.alloc (.cells #[.int .i64 (u1 : Int), .int .i64 (u2 : Int)] 28)).drew.grownBy W9 (some g) := hg9
              have z1 : W9.heap[w.heap.size]? = some (.cells #[.int .i64 0, .int .i64 0] 28 (0, 0)) := (hg9'.block w.heap.size (by simp; have := HVb.out.size; omega) (fun e => by injection e with e; omega)).trans ((heap_alloc_old W _ (heap_ltU ((HVB.out.block w.heap.size (by have := heap_ltU HBX.out; exact this)).trans HBX.out))).trans ((HVB.out.block w.heap.size (heap_ltU HBX.out)).trans HBX.out))
              have z2 : W9.heap[wo.heap.size]? = some (.cells #[.int .i64 (pn : Int), .int .i64 (1 : Int)] 28 (0, 0)) := (hg9'.block wo.heap.size (by simp; omega) (fun e => by injection e with e; omega)).trans ((heap_alloc_old W _ hVX).trans HVX.out)
              exact ⟨(HVb.out.alloc HVb.out.size _).drew.grown hg9 (by simp; have := HVb.out.size; omega) (fun j hj => by have hj : some g = some j := hj; injection hj with hj; omega), z1, by rw [cell_of_row _ _ 0 _ _ _ z2]; rfl, by rw [cell_of_row _ _ 1 _ _ _ z2]; rfl⟩)
            have HC0 : Hid (∀ o : Obj, (W.alloc o).cell? ⟨wo.heap.size, 0, none⟩ = some (.int .i64 (pn : Int)) ∧ (W.alloc o).cell? ⟨wo.heap.size, 1, none⟩ = some (.int .i64 (1 : Int))) := hide (fun o => by
              have z2 := (heap_alloc_old W o hVX).trans HVX.out
              exact ⟨by rw [cell_of_row _ _ 0 _ _ _ z2]; rfl, by rw [cell_of_row _ _ 1 _ _ _ z2]; rfl⟩)
            have HC1 := hide (And.intro hc0 hc1)
            clear hd hu1 hu1' hu2' hn1 hn2 hgl hb1' hg4
            go_wp2_with fail
            go_region_held3 (fun W => W.cell? ⟨wo.heap.size, 0, none⟩ = some (.int .i64 (pn : Int)) ∧ W.cell? ⟨wo.heap.size, 1, none⟩ = some (.int .i64 (1 : Int)))
              (first | exact HC1.out | exact HC0.out _ | exact (HAP.out _ hgrow).2.2)
              ((refine step_push_frac (by rfl) _ _ (by rfl) w1.heap.size (.slice (some ⟨g, 0, none⟩) k cp) (unitsN l ps k) (by rfl) HSA.out W.heap.size (u1, u2) (by rfl) (heap_alloc_new W _) hkl (by simp; omega) ?_; intro gg cap W9 hown hgrow))
            all_goals
              have h9 := HAP.out _ hgrow
              obtain ⟨hb9, hx9, -⟩ := h9
              have hown9 : FracSl W9 w1.heap.size (.slice (some ⟨gg, 0, none⟩) (k + 1) cap) (unitsN l ps (k + 1)) := by
                rw [HUE.out]
                rw [unitsN_len] at hown
                exact hown
              rw [unitsN_len]
              clear hgrow
              go_wp2_with fail
              go_roundw
              case rel => exact ⟨k + 1, gg, cap, hkn, by go_num, rfl, hide hown9, hide hx9, hb9⟩
              case measure => simp [intOf]; omega
        · obtain rfl : k = q + 1 := by omega
          have hqn : q < q + 1 := by omega
          obtain ⟨x, hx9⟩ : ∃ x, (unitsN l ps (q + 1))[q]? = some x := ⟨_, List.getElem?_eq_getElem (by rw [unitsN_len]; exact hqn)⟩
          have hu : u = (x, true) := by rw [HUU.out, List.getD_eq_getElem?_getD, hx9]; rfl
          subst hu
          obtain ⟨gb, go, ge, hgl, r0, r1⟩ := HS.out.at_ q x hx9
          injection ge with ge
          injection ge with ge1 ge2
          subst ge1 ge2
          rw [Nat.zero_add] at r0 r1
          have hq0 : (0 : Int) ≤ q := by omega
          have hq1 : (q : Int) < ((q + 1 : Nat) : Int) := by omega
          have hq2 : ¬ ((q + 1 : Nat) : Int) ≤ q := by omega
          have hq3 : (q : Int) < (q : Int) + 1 := by omega
          have hq4 : ¬ (q : Int) + 1 ≤ q := by omega
          have c0 : wr.cell? ⟨w.heap.size, 0, none⟩ = some (.int .i64 0) := by rw [cell_of_row _ _ 0 _ _ _ HBX.out]; rfl
          have c1 : wr.cell? ⟨w.heap.size, 1, none⟩ = some (.int .i64 0) := by rw [cell_of_row _ _ 1 _ _ _ HBX.out]; rfl
          have g0 := frozen_of_row wr w.heap.size 0 _ _ HBX.out
          have g1 := frozen_of_row wr w.heap.size 1 _ _ HBX.out
          have hbe := (hb.setCell (p := ⟨w.heap.size, 0, none⟩) (Nat.le_refl _) (.int .i64 (x.1 : Nat))).setCell (p := ⟨w.heap.size, 1, none⟩) (Nat.le_refl _) (.int .i64 (x.2 : Nat))
          obtain ⟨f0, f1⟩ := frac_set (u := .int .i64 (x.1 : Nat)) (v := .int .i64 (x.2 : Nat)) HBX.out
          have HE := hide (And.intro hbe (And.intro f0 f1))
          clear hbe f0 f1 hx9
          go_wp2_with fail
          obtain ⟨hbe, f0, f1⟩ := HE.out
          exact bodyPost_ret (v := .tuple #[.agg #[.int .i64 (x.1 : Nat), .int .i64 (x.2 : Nat)], .bool true]) (by simp [results, Tryd.results6, go_sem, f0, f1]) rfl ⟨rfl, hbe⟩
end Go.Proofs.YtjegebnnlomcpaaDoor
