/- UnitI: contract of batchShare of the program.
   Conditions: the costs are such as of valid items. -/
import Derived.Test.YtjegebnnlomcpaaDoorUnitL
import Derived.Test.YtjegebnnlomcpaaDoorUnitS
import Derived.Deep.DeepCutAuto
namespace Go.Proofs.YtjegebnnlomcpaaDoor
open Go.RowKit Go.ChangeShapes Go.WideShapes Go.ChangeAt Go.Deep

def FracsAt (w : World) (A : Option Addr) (cs : List (Nat × Nat)) : Prop :=
  ∀ i c, cs[i]? = some c → ∃ b off, A = some ⟨b, off, none⟩ ∧ b < w.heap.size ∧ w.cell? ⟨b, off + i * 2, none⟩ = some (.int .i64 (c.1 : Nat)) ∧ w.cell? ⟨b, off + i * 2 + 1, none⟩ = some (.int .i64 (c.2 : Nat))
theorem FracsAt.below {w w' : World} {A : Option Addr} {cs : List (Nat × Nat)} (h : FracsAt w A cs) (hb : Below w.heap.size w w') : FracsAt w' A cs := fun i c hc => by
  obtain ⟨b, off, e, h1, h2, h3⟩ := h i c hc
  exact ⟨b, off, e, Nat.lt_of_lt_of_le h1 hb.size, (hb.cell h1).trans h2, (hb.cell h1).trans h3⟩
/-- One part more keeps the sum within its bounds. -/
theorem sum_step {C T K : Nat} {s : Nat × Nat} {q : Nat × Nat × Nat} (hq : 0 < q.2.2 ∧ q.2.2 ∣ T ∧ q.1 ≤ 6 ∧ q.2.1 ≤ C * q.2.2) (h0 : 0 < s.2) (hT : s.2 ∣ T) (hK : s.1 ≤ K * s.2) :
    0 < (lowN (s.1 * q.2.2 + q.1 * q.2.1 * s.2) (s.2 * q.2.2)).2 ∧ (lowN (s.1 * q.2.2 + q.1 * q.2.1 * s.2) (s.2 * q.2.2)).2 ∣ T ∧ (lowN (s.1 * q.2.2 + q.1 * q.2.1 * s.2) (s.2 * q.2.2)).1 ≤ (K + 6 * C) * (lowN (s.1 * q.2.2 + q.1 * q.2.1 * s.2) (s.2 * q.2.2)).2 := by
  have h1 := sumI_dvd (T := T) [q] s (fun p hp => by obtain rfl : p = q := (by simpa using hp); exact ⟨hq.1, hq.2.1⟩) h0 hT
  have h2 := sumI_rng (C := C) (M := 6) [q] s K (fun p hp => by obtain rfl : p = q := (by simpa using hp); exact ⟨hq.1, hq.2.2⟩) h0 hK
  obtain ⟨m, a, b⟩ := q
  simp only [sumI, List.length_cons, List.length_nil] at h1 h2
  exact ⟨h1.1, h1.2, by simpa using h2⟩

set_option maxRecDepth 100000 in
set_option maxHeartbeats 4000000 in
theorem batchShare_any (P F : Option Addr) (n c m d : Nat) (y mk : Int) (ps : List Part) (cs : List (Nat × Nat)) (C T : Nat) (w : World) (hP : PartsAt w P ps) (hn : ps.length = n) (hF : FracsAt w F cs) (hm : cs.length ≤ m)
    (HU : Hid (UnitsOk C T cs)) (hC : C ≤ 2099520) (hT0 : 0 < T) (hT : T ≤ 1296) (hy0 : 0 < y) (hy1 : y ≤ 6) (hn3 : n ≤ 3) (HQ : Hid (∀ q ∈ ps, 0 ≤ q.of ∧ q.of < (cs.length : Int) ∧ 1 ≤ q.many ∧ q.many ≤ 6)) :
    Calls Tryd.prog 17 #[.agg #[.int .i64 y, .slice P n c, .int .i64 mk], .slice F m d] w fun e w' =>
      e = .returned (.agg #[.int .i64 ((lowN (sumI (0, 1) (partsN cs ps)).1 ((sumI (0, 1) (partsN cs ps)).2 * y.toNat)).1 : Nat), .int .i64 ((lowN (sumI (0, 1) (partsN cs ps)).1 ((sumI (0, 1) (partsN cs ps)).2 * y.toNat)).2 : Nat)]) ∧ Below w.heap.size w w' := by
  have HPA := hide hP
  have HFA := hide hF
  have HN := hide hn
  have HM := hide hm
  clear hP hF hn hm
  go_enter Tryd.func17, Tryd.ntmps17
  go_wp2_with fail
  obtain ⟨qs, HQS⟩ : ∃ qs, Hid (partsN cs ps = qs) := ⟨_, hide rfl⟩
  have HQL : Hid (qs.length = n) := hide (by rw [← HQS.out]; unfold partsN; rw [List.length_map]; exact HN.out)
  go_loopw [13] (fun iv wr => ∃ (k : Nat) (s : Nat × Nat), k ≤ n ∧ iv = .int .i64 k ∧ Hid (sumI (0, 1) qs = sumI s (qs.drop k)) ∧ Hid (0 < s.2 ∧ s.2 ∣ T ∧ s.1 ≤ (6 * C * k) * s.2) ∧
      Hid (wr.heap[w.heap.size]? = some (.cells #[.int .i64 y, .slice P n c, .int .i64 mk] 39 (0, 0)) ∧ wr.heap[w.heap.size + 1]? = some (.cells #[.int .i64 0, .int .i64 0] 28 (0, 0)) ∧
        wr.heap[w.heap.size + 1 + 1]? = some (.cells #[.int .i64 (s.1 : Nat), .int .i64 (s.2 : Nat)] 28 (0, 0))) ∧ Below w.heap.size w wr) (fun iv _ => n - (intOf iv).toNat)
  case atStart =>
    refine ⟨0, (0, 1), Nat.zero_le _, rfl, hide rfl, hide ⟨by simp, ⟨T, by simp⟩, by simp⟩, hide ⟨?_, ?_, ?_⟩, by go_grown⟩
    · rw [heap_alloc_old _ _ (by simp; omega), heap_alloc_old _ _ (by simp)]; exact heap_alloc_new w _
    · rw [heap_alloc_old _ _ (by simp)]
      have := heap_alloc_new (w.alloc (.cells #[.int .i64 y, .slice P n c, .int .i64 mk] 39)) (.cells #[.int .i64 0, .int .i64 0] 28)
      simpa using this
    · have := heap_alloc_new ((w.alloc (.cells #[.int .i64 y, .slice P n c, .int .i64 mk] 39)).alloc (.cells #[.int .i64 0, .int .i64 0] 28)) (.cells #[.int .i64 0, .int .i64 1] 28)
      simpa using this
  case round =>
    obtain ⟨k, s, hk, rfl, HS, HSB, HBX, hb⟩ := hrel
    have hsz := hb.size
    by_cases hkn : k < n
    · obtain ⟨p, hp⟩ : ∃ p, ps[k]? = some p := ⟨_, List.getElem?_eq_getElem (by rw [HN.out]; exact hkn)⟩
      obtain ⟨hq0, hq1, hq2, hq3⟩ := HQ.out p (List.mem_of_getElem? hp)
      obtain ⟨j, mn, hj, hmn⟩ : ∃ j mn : Nat, p.of = j ∧ p.many = mn := ⟨p.of.toNat, p.many.toNat, by omega, by omega⟩
      obtain ⟨⟨a, b⟩, hab⟩ : ∃ c, cs[j]? = some c := ⟨_, List.getElem?_eq_getElem (by omega)⟩
      have hqk : qs[k]? = some (mn, a, b) := by
        rw [← HQS.out]
        unfold partsN
        rw [List.getElem?_map, hp, Option.map_some, hj, hmn, Int.toNat_natCast, Int.toNat_natCast, List.getD_eq_getElem?_getD, hab]
        rfl
      have hD : qs.drop k = (mn, a, b) :: qs.drop (k + 1) := by
        rw [List.drop_eq_getElem_cons (by rw [HQL.out]; exact hkn)]
        congr 1
        rw [List.getElem?_eq_getElem (by rw [HQL.out]; exact hkn)] at hqk
        injection hqk
      obtain ⟨s1, s2⟩ := s
      have hpo := parts_ok HU.out HQ.out (mn, a, b) (by rw [HQS.out]; exact List.mem_of_getElem? hqk)
      have hst := sum_step (K := 6 * C * k) hpo HSB.out.1 HSB.out.2.1 HSB.out.2.2
      have hS2 : sumI (0, 1) qs = sumI (lowN (s1 * b + mn * a * s2) (s2 * b)) (qs.drop (k + 1)) := by rw [HS.out, hD]; rfl
      obtain ⟨hs0, hsT, hs1⟩ := HSB.out
      have hs2 : s2 ≤ 1296 := Nat.le_trans (Nat.le_of_dvd hT0 hsT) hT
      have hb2 : b ≤ 1296 := Nat.le_trans (Nat.le_of_dvd hT0 hpo.2.1) hT
      have hb1 : 0 < b := hpo.1
      have hm6 : mn ≤ 6 := hpo.2.2.1
      have ha2 : a ≤ 2720977920 := Nat.le_trans hpo.2.2.2 (Nat.mul_le_mul hC hb2)
      have hs3 : s1 ≤ 48977602560 := Nat.le_trans hs1 (Nat.mul_le_mul (show 6 * C * k ≤ 37791360 from Nat.le_trans (Nat.mul_le_mul (Nat.mul_le_mul_left 6 hC) (show k ≤ 3 by omega)) (by omega)) hs2)
      obtain ⟨n1, hn1⟩ : ∃ n1, s1 * b = n1 := ⟨_, rfl⟩
      obtain ⟨n2, hn2⟩ : ∃ n2, mn * a = n2 := ⟨_, rfl⟩
      obtain ⟨n3, hn3'⟩ : ∃ n3, n2 * s2 = n3 := ⟨_, rfl⟩
      obtain ⟨n5, hn5⟩ : ∃ n5, s2 * b = n5 := ⟨_, rfl⟩
      have b1 : n1 ≤ 63474972917760 := by rw [← hn1]; exact Nat.mul_le_mul hs3 hb2
      have b2 : n2 ≤ 16325867520 := by rw [← hn2]; exact Nat.mul_le_mul hm6 ha2
      have b3 : n3 ≤ 21158324305920 := by rw [← hn3']; exact Nat.mul_le_mul b2 hs2
      have b5 : n5 ≤ 1679616 := by rw [← hn5]; exact Nat.mul_le_mul hs2 hb2
      have b50 : 0 < n5 := by rw [← hn5]; exact Nat.mul_pos hs0 hb1
      have e1 : (s1 : Int) * (b : Int) = (n1 : Int) := by rw [← hn1]; exact (Int.natCast_mul s1 b).symm
      have e2 : (mn : Int) * (a : Int) = (n2 : Int) := by rw [← hn2]; exact (Int.natCast_mul mn a).symm
      have e3 : (n2 : Int) * (s2 : Int) = (n3 : Int) := by rw [← hn3']; exact (Int.natCast_mul n2 s2).symm
      have e5 : (s2 : Int) * (b : Int) = (n5 : Int) := by rw [← hn5]; exact (Int.natCast_mul s2 b).symm
      have w1 : IntKind.i64.wrap (n1 : Int) = (n1 : Int) := IntWalk.i64_in _ (by omega)
      have w2 : IntKind.i64.wrap (n2 : Int) = (n2 : Int) := IntWalk.i64_in _ (by omega)
      have w3 : IntKind.i64.wrap (n3 : Int) = (n3 : Int) := IntWalk.i64_in _ (by omega)
      have w5 : IntKind.i64.wrap (n5 : Int) = (n5 : Int) := IntWalk.i64_in _ (by omega)
      have w4 : IntKind.i64.wrap ((n1 : Int) + (n3 : Int)) = ((n1 + n3 : Nat) : Int) := by rw [← Int.natCast_add]; exact IntWalk.i64_in _ (by omega)
      rw [hn1, hn2, hn3', hn5] at hS2
      rw [show s1 * b + mn * a * s2 = n1 + n3 from by rw [hn1, hn2, hn3'], show s2 * b = n5 from hn5] at hst
      have HST := hide (And.intro hst hS2)
      have HLW := hide (fun W => lowest_any (n1 + n3) n5 W (by omega) (by omega) b50)
      obtain ⟨pb, po, rfl, hpl, hp0, hp1⟩ := (HPA.out.below hb) k p hp
      obtain ⟨fb, fo, rfl, hfl, hf0, hf1⟩ := (HFA.out.below hb) j (a, b) hab
      rw [hj] at hp0
      rw [hmn] at hp1
      have hjm : (j : Int) < m := by have := HM.out; have := (List.getElem?_eq_some_iff.1 hab).1; omega
      have hj0 : (0 : Int) ≤ j := by omega
      have hk0 : (0 : Int) ≤ k := by omega
      have hk1 : (k : Int) < n := by omega
      obtain ⟨x1, x2, x3⟩ := HBX.out
      have c0 : wr.cell? ⟨w.heap.size + 1 + 1, 0, none⟩ = some (.int .i64 (s1 : Nat)) := by rw [cell_of_row _ _ 0 _ _ _ x3]; rfl
      have c1 : wr.cell? ⟨w.heap.size + 1 + 1, 1, none⟩ = some (.int .i64 (s2 : Nat)) := by rw [cell_of_row _ _ 1 _ _ _ x3]; rfl
      have hx3 : w.heap.size + 1 + 1 < wr.heap.size := (Array.getElem?_eq_some_iff.1 x3).1
      clear hst hS2 hD hqk hp hab hpo hn1 hn2 hn3' hn5 hs1 hs3 hq0 hq1 hq2 hq3 hj hmn x1 x2 x3
      have HX3 := hide hx3
      go_upto_region 6 with fail
      obtain ⟨W2, hW2⟩ : ∃ W2, ((wr.alloc (.cells #[.int .i64 (j : Int), .int .i64 (mn : Int)] 52)).alloc (.cells #[.int .i64 (a : Int), .int .i64 (b : Int)] 28)) = W2 := ⟨_, rfl⟩
      have HB2 : Hid (Below w.heap.size w W2) := hide (by rw [← hW2]; exact (hb.alloc hb.size _).alloc (hb.alloc hb.size _).size _)
      have HBw : Below wr.heap.size wr W2 := by rw [← hW2]; exact ((Below.refl _ _).alloc (Nat.le_refl _) _).alloc (by simp) _
      have hx3 := HX3.out
      have y1 := (HBw.block w.heap.size (by omega)).trans HBX.out.1
      have y2 := (HBw.block (w.heap.size + 1) (by omega)).trans HBX.out.2.1
      have y3 := (HBw.block (w.heap.size + 1 + 1) hx3).trans HBX.out.2.2
      have HY := hide (And.intro y1 (And.intro y2 y3))
      have r1 : W2.heap[wr.heap.size]? = some (.cells #[.int .i64 (j : Int), .int .i64 (mn : Int)] 52 (0, 0)) := by rw [← hW2, heap_alloc_old _ _ (by simp)]; exact heap_alloc_new wr _
      have r2 : W2.heap[wr.heap.size + 1]? = some (.cells #[.int .i64 (a : Int), .int .i64 (b : Int)] 28 (0, 0)) := by
        rw [← hW2]
        have := heap_alloc_new (wr.alloc (.cells #[.int .i64 (j : Int), .int .i64 (mn : Int)] 52)) (.cells #[.int .i64 (a : Int), .int .i64 (b : Int)] 28)
        simpa using this
      have d0 : W2.cell? ⟨w.heap.size + 1 + 1, 0, none⟩ = some (.int .i64 (s1 : Nat)) := by rw [cell_of_row _ _ 0 _ _ _ y3]; rfl
      have d1 : W2.cell? ⟨w.heap.size + 1 + 1, 1, none⟩ = some (.int .i64 (s2 : Nat)) := by rw [cell_of_row _ _ 1 _ _ _ y3]; rfl
      have d2 : W2.cell? ⟨wr.heap.size, 1, none⟩ = some (.int .i64 (mn : Int)) := by rw [cell_of_row _ _ 1 _ _ _ r1]; rfl
      have d3 : W2.cell? ⟨wr.heap.size + 1, 0, none⟩ = some (.int .i64 (a : Int)) := by rw [cell_of_row _ _ 0 _ _ _ r2]; rfl
      have d4 : W2.cell? ⟨wr.heap.size + 1, 1, none⟩ = some (.int .i64 (b : Int)) := by rw [cell_of_row _ _ 1 _ _ _ r2]; rfl
      rw [hW2]
      clear hW2 y1 y2 y3 r1 r2 c0 c1 hp0 hp1 hf0 hf1 HBw hb hpl hfl
      go_wp2_with fail
      refine (HLW.out W2).mono ?_
      rintro e W3 ⟨rfl, hB3⟩
      have z1 := (hB3.block w.heap.size (by have := HB2.out.size; have := (Array.getElem?_eq_some_iff.1 HY.out.1).1; exact this)).trans HY.out.1
      have z2 := (hB3.block (w.heap.size + 1) (Array.getElem?_eq_some_iff.1 HY.out.2.1).1).trans HY.out.2.1
      have z3 := (hB3.block (w.heap.size + 1 + 1) (Array.getElem?_eq_some_iff.1 HY.out.2.2).1).trans HY.out.2.2
      have hb3 := next HB2.out hB3
      have HZ := hide (And.intro z1 (And.intro z2 z3))
      obtain ⟨⟨u, v⟩, huv⟩ : ∃ z, lowN (n1 + n3) n5 = z := ⟨_, rfl⟩
      rw [huv] at HST ⊢
      have t0 : W3.cell? ⟨w.heap.size + 1 + 1, 0, none⟩ = some (.int .i64 (s1 : Nat)) := by rw [cell_of_row _ _ 0 _ _ _ z3]; rfl
      have t1 : W3.cell? ⟨w.heap.size + 1 + 1, 1, none⟩ = some (.int .i64 (s2 : Nat)) := by rw [cell_of_row _ _ 1 _ _ _ z3]; rfl
      have g0 := frozen_of_row W3 (w.heap.size + 1 + 1) 0 _ _ z3
      have g1 := frozen_of_row W3 (w.heap.size + 1 + 1) 1 _ _ z3
      have hbe := (hb3.setCell (p := ⟨w.heap.size + 1 + 1, 0, none⟩) (by simp; omega) (.int .i64 (u : Nat))).setCell (p := ⟨w.heap.size + 1 + 1, 1, none⟩) (by simp; omega) (.int .i64 (v : Nat))
      have HE := hide hbe
      clear z1 z2 z3 d0 d1 d2 d3 d4 hB3 huv hb3 hbe
      go_wp2_with fail
      go_roundw
      case rel =>
        refine ⟨k + 1, (u, v), hkn, by go_num, hide HST.out.2, hide ⟨HST.out.1.1, HST.out.1.2.1, by rw [show 6 * C * (k + 1) = 6 * C * k + 6 * C from by rw [Nat.mul_add, Nat.mul_one]]; exact HST.out.1.2.2⟩, hide ⟨?_, ?_, ?_⟩, HE.out⟩
        · rw [heap_setCell_other _ ⟨w.heap.size + 1 + 1, 1, none⟩ _ _ (by simp; omega), heap_setCell_other _ ⟨w.heap.size + 1 + 1, 0, none⟩ _ _ (by simp; omega)]; exact HZ.out.1
        · rw [heap_setCell_other _ ⟨w.heap.size + 1 + 1, 1, none⟩ _ _ (by simp), heap_setCell_other _ ⟨w.heap.size + 1 + 1, 0, none⟩ _ _ (by simp)]; exact HZ.out.2.1
        · rw [heap_setCell_same _ (w.heap.size + 1 + 1) 1 _ _ _ (heap_setCell_same _ (w.heap.size + 1 + 1) 0 _ _ _ HZ.out.2.2)]; rfl
      case measure => simp [intOf]; omega
    · obtain rfl : k = n := by omega
      have hS : sumI (0, 1) qs = s := by rw [HS.out, List.drop_of_length_le (by rw [HQL.out]; exact Nat.le_refl _)]; rfl
      obtain ⟨s1, s2⟩ := s
      obtain ⟨hs0, hsT, hs1⟩ := HSB.out
      have hs2 : s2 ≤ 1296 := Nat.le_trans (Nat.le_of_dvd hT0 hsT) hT
      obtain ⟨yn, rfl⟩ : ∃ yn : Nat, y = yn := ⟨y.toNat, by omega⟩
      have hs3 : s1 ≤ 48977602560 := Nat.le_trans hs1 (Nat.mul_le_mul (show 6 * C * k ≤ 37791360 from Nat.le_trans (Nat.mul_le_mul (Nat.mul_le_mul_left 6 hC) hn3) (by omega)) hs2)
      obtain ⟨n5, hn5⟩ : ∃ n5, s2 * yn = n5 := ⟨_, rfl⟩
      have b5 : n5 ≤ 7776 := by rw [← hn5]; exact Nat.mul_le_mul hs2 (show yn ≤ 6 by omega)
      have b50 : 0 < n5 := by rw [← hn5]; exact Nat.mul_pos hs0 (by omega)
      have e5 : (s2 : Int) * (yn : Int) = (n5 : Int) := by rw [← hn5]; exact (Int.natCast_mul s2 yn).symm
      have w5 : IntKind.i64.wrap (n5 : Int) = (n5 : Int) := IntWalk.i64_in _ (by omega)
      have HLW := hide (fun W => lowest_any s1 n5 W (by omega) (by omega) b50)
      have HR : Hid (lowN (sumI (0, 1) (partsN cs ps)).1 ((sumI (0, 1) (partsN cs ps)).2 * (yn : Int).toNat) = lowN s1 n5) := hide (by rw [HQS.out, hS, Int.toNat_natCast, ← hn5])
      obtain ⟨x1, x2, x3⟩ := HBX.out
      have c0 : wr.cell? ⟨w.heap.size + 1 + 1, 0, none⟩ = some (.int .i64 (s1 : Nat)) := by rw [cell_of_row _ _ 0 _ _ _ x3]; rfl
      have c1 : wr.cell? ⟨w.heap.size + 1 + 1, 1, none⟩ = some (.int .i64 (s2 : Nat)) := by rw [cell_of_row _ _ 1 _ _ _ x3]; rfl
      have c2 : wr.cell? ⟨w.heap.size, 0, none⟩ = some (.int .i64 (yn : Int)) := by rw [cell_of_row _ _ 0 _ _ _ x1]; rfl
      clear hS hn5 hs1 hsT x1 x3
      go_wp2_with fail
      refine (HLW.out wr).mono ?_
      rintro e W3 ⟨rfl, hB3⟩
      have hb3 := next hb hB3
      have z2 := (hB3.block (w.heap.size + 1) (Array.getElem?_eq_some_iff.1 x2).1).trans x2
      obtain ⟨⟨u, v⟩, huv⟩ : ∃ z, lowN s1 n5 = z := ⟨_, rfl⟩
      rw [huv] at HR ⊢
      have t0 : W3.cell? ⟨w.heap.size + 1, 0, none⟩ = some (.int .i64 0) := by rw [cell_of_row _ _ 0 _ _ _ z2]; rfl
      have t1 : W3.cell? ⟨w.heap.size + 1, 1, none⟩ = some (.int .i64 0) := by rw [cell_of_row _ _ 1 _ _ _ z2]; rfl
      have g0 := frozen_of_row W3 (w.heap.size + 1) 0 _ _ z2
      have g1 := frozen_of_row W3 (w.heap.size + 1) 1 _ _ z2
      have hbe := (hb3.setCell (p := ⟨w.heap.size + 1, 0, none⟩) (by simp) (.int .i64 (u : Nat))).setCell (p := ⟨w.heap.size + 1, 1, none⟩) (by simp) (.int .i64 (v : Nat))
      obtain ⟨f0, f1⟩ := frac_set (u := .int .i64 (u : Nat)) (v := .int .i64 (v : Nat)) z2
      have HE := hide (And.intro hbe (And.intro f0 f1))
      clear hB3 huv hb3 hbe f0 f1 z2 x2 c0 c1 c2
      go_wp2_with fail
      obtain ⟨hbe, f0, f1⟩ := HE.out
      refine bodyPost_ret (v := .agg #[.int .i64 (u : Nat), .int .i64 (v : Nat)]) (by simp [results, Tryd.results17, go_sem, f0, f1]) rfl ⟨by rw [HR.out], hbe⟩
end Go.Proofs.YtjegebnnlomcpaaDoor
