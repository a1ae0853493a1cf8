/- TextS: contracts of l1Number and ItemText of the reference model.
   Conditions: the bounds in each statement. -/
import Derived.Test.YtaelapimchmbcaaDoorReadMath
namespace Go.Proofs.YtaelapimchmbcaaDoor
open Go.RowKit Go.ChangeShapes Go.WideShapes Go.ChangeAt Go.Deep

theorem digit_conv {d : Nat} (h : d < 10) : IntKind.u8.wrap ((48 : Int) + (d : Int)) = ((48 + d : Nat) : Int) := by
  rcases (by omega : d = 0 ∨ d = 1 ∨ d = 2 ∨ d = 3 ∨ d = 4 ∨ d = 5 ∨ d = 6 ∨ d = 7 ∨ d = 8 ∨ d = 9) with rfl | rfl | rfl | rfl | rfl | rfl | rfl | rfl | rfl | rfl <;> decide

theorem ofNat_digit {d : Nat} (h : d < 10) : (UInt8.ofNat (48 + d)).toNat = 48 + d := by
  rcases (by omega : d = 0 ∨ d = 1 ∨ d = 2 ∨ d = 3 ∨ d = 4 ∨ d = 5 ∨ d = 6 ∨ d = 7 ∨ d = 8 ∨ d = 9) with rfl | rfl | rfl | rfl | rfl | rfl | rfl | rfl | rfl | rfl <;> decide
theorem conv_digit {d : Nat} (h : d < 10) {W : World} {b : Nat} (hW : W.heap[b]? = some (.cells #[.int .u8 ((48 : Int) + (d : Int))] 5 (0, 0))) :
    (convert 22 9 (.slice (some ⟨b, 0, none⟩) 1 1)).run Tryd.prog W = .ok (.string ⟨#[UInt8.ofNat (48 + d)]⟩) W := by
  refine run_convert_bytes_back W 22 9 5 ⟨b, 0, none⟩ 1 [UInt8.ofNat (48 + d)] Tryd.underlying22 (by kernel_rfl) (by kernel_rfl) (fun j hj => ?_)
  obtain rfl : j = 0 := by simpa using hj
  rw [show (⟨b, 0, none⟩ : Addr).add 0 = ⟨b, 0, none⟩ from rfl, cell_of_row _ _ 0 _ _ _ hW]
  show some (Value.int .u8 ((48 : Int) + (d : Int))) = some (.int .u8 ((UInt8.ofNat (48 + d)).toNat : Int))
  rw [ofNat_digit h, Int.natCast_add]
  rfl

theorem nDigits_le : ∀ (N u : Nat), u ≤ N → Lib.nDigits u ≤ u + 1 := by
  intro N
  induction N with
  | zero => intro u hu; rw [Lib.nDigits_small (by omega)]; omega
  | succ N ih =>
    intro u hu
    by_cases h : u < 10
    · rw [Lib.nDigits_small h]; omega
    · rw [Lib.nDigits_big h]
      have := ih (u / 10) (by omega)
      omega

set_option maxRecDepth 100000 in
set_option maxHeartbeats 2000000 in
theorem l1Number_any : ∀ (N n : Nat), n ≤ N → n ≤ 9000000000000000000 → ∀ w : World, Calls Tryd.prog 26 #[.int .i64 n] w fun e w' => e = .returned (.string ⟨(Lib.decDigits n).toArray⟩) ∧ Below w.heap.size w w' := by
  intro N
  induction N with
  | zero =>
    intro n hN hn w
    obtain rfl : n = 0 := by omega
    have HR : Hid (Lib.decDigits 0 = [48]) := hide (Lib.decDigits_one (by omega))
    have hcv := conv_digit (d := 0) (by omega) (heap_alloc_new w (.cells #[.int .u8 ((48 : Int) + ((0 : Nat) : Int))] 5))
    have hw2 := digit_conv (d := 0) (by omega)
    have hw1 : IntKind.i64.wrap (48 : Int) = (48 : Int) := IntWalk.i64_in _ (by omega)
    have hw3 : IntKind.u8.wrap (48 : Int) = (48 : Int) := by decide
    simp only [Int.add_zero, Int.natCast_zero, Nat.add_zero] at hcv hw2
    go_enter Tryd.func26, Tryd.ntmps26
    go_wp2_with fail
    go_ret
    exact ⟨by rw [HR.out]; rfl, by go_grown⟩
  | succ N ih =>
    intro n hN hn w
    have h0 : ¬ (n : Int) < 0 := by omega
    by_cases h10 : n < 10
    · have HR : Hid (Lib.decDigits n = [UInt8.ofNat (48 + n)]) := hide (Lib.decDigits_one h10)
      have h10' : (n : Int) < 10 := by omega
      obtain ⟨bt, hbt⟩ : ∃ bt, UInt8.ofNat (48 + n) = bt := ⟨_, rfl⟩
      have hw1 : IntKind.i64.wrap ((48 : Int) + (n : Int)) = (48 : Int) + (n : Int) := IntWalk.i64_in _ (by omega)
      have hw2 : IntKind.u8.wrap ((48 : Int) + (n : Int)) = (48 : Int) + (n : Int) := by rw [digit_conv h10]; omega
      have hcv := conv_digit h10 (heap_alloc_new w (.cells #[.int .u8 ((48 : Int) + (n : Int))] 5))
      rw [hbt] at hcv HR
      clear h10 hbt
      go_enter Tryd.func26, Tryd.ntmps26
      go_wp2_with fail
      go_ret
      exact ⟨by rw [HR.out]; rfl, by go_grown⟩
    · have HR : Hid (Lib.decDigits n = Lib.decDigits (n / 10) ++ [UInt8.ofNat (48 + n % 10)]) := hide (by rw [Lib.decDigits, dif_neg h10])
      have h10' : ¬ (n : Int) < 10 := by omega
      obtain ⟨q, hq⟩ : ∃ q, n / 10 = q := ⟨_, rfl⟩
      obtain ⟨r, hr⟩ : ∃ r, n % 10 = r := ⟨_, rfl⟩
      have hr10 : r < 10 := by omega
      have HI := hide (fun w => ih q (by omega) (by omega) w)
      have hq1 : Int.tdiv (n : Int) 10 = (q : Int) := by rw [← hq]; exact (Int.ofNat_tdiv n 10).symm
      have hq2 : (n : Int) / 10 = (q : Int) := by rw [← hq]; exact (Int.natCast_ediv n 10).symm
      have hq3 : IntKind.i64.wrap (Int.tdiv (n : Int) 10) = (q : Int) := by rw [hq1]; exact IntWalk.i64_in _ (by omega)
      have hq4 : IntKind.i64.wrap (q : Int) = (q : Int) := IntWalk.i64_in _ (by omega)
      have hr1 : Int.tmod (n : Int) 10 = (r : Int) := by rw [← hr]; exact (Int.ofNat_tmod n 10).symm
      have hr2 : (n : Int) % 10 = (r : Int) := by rw [← hr]; exact (Int.natCast_emod n 10).symm
      have hr3 : IntKind.i64.wrap (Int.tmod (n : Int) 10) = (r : Int) := by rw [hr1]; exact IntWalk.i64_in _ (by omega)
      have hr4 : IntKind.i64.wrap (r : Int) = (r : Int) := IntWalk.i64_in _ (by omega)
      have hw1 : IntKind.i64.wrap ((48 : Int) + (r : Int)) = (48 : Int) + (r : Int) := IntWalk.i64_in _ (by omega)
      have hw2 : IntKind.u8.wrap ((48 : Int) + (r : Int)) = (48 : Int) + (r : Int) := by rw [digit_conv hr10]; omega
      obtain ⟨bt, hbt⟩ : ∃ bt, UInt8.ofNat (48 + r) = bt := ⟨_, rfl⟩
      have HCG : Hid (∀ (W : World) (b : Nat), W.heap[b]? = some (.cells #[.int .u8 ((48 : Int) + (r : Int))] 5 (0, 0)) → (convert 22 9 (.slice (some ⟨b, 0, none⟩) 1 1)).run Tryd.prog W = .ok (.string ⟨#[bt]⟩) W) := hide (fun W b h => by rw [← hbt]; exact conv_digit hr10 h)
      have hcv : ∀ W : World, (convert 22 9 (.slice (some ⟨W.heap.size, 0, none⟩) 1 1)).run Tryd.prog (W.alloc (.cells #[.int .u8 ((48 : Int) + (r : Int))] 5)) = .ok (.string ⟨#[bt]⟩) (W.alloc (.cells #[.int .u8 ((48 : Int) + (r : Int))] 5)) := fun W => HCG.out _ _ (heap_alloc_new W _)
      have hcd : ∀ W : World, (convert 22 9 (.slice (some ⟨W.heap.size, 0, none⟩) 1 1)).run Tryd.prog (W.alloc (.cells #[.int .u8 ((48 : Int) + (r : Int))] 5)).drew = .ok (.string ⟨#[bt]⟩) (W.alloc (.cells #[.int .u8 ((48 : Int) + (r : Int))] 5)).drew := fun W => HCG.out _ _ (heap_alloc_new W _)
      have hl : (Lib.decDigits q).length ≤ q + 1 := by
        rw [Lib.decDigits_length]
        exact nDigits_le q q (Nat.le_refl _)
      have hql : q ≤ 900000000000000000 := by omega
      have hadd := add_lists (Lib.decDigits q) [bt] (by simp; omega)
      rw [hq, hr, hbt] at HR
      clear hq hr h10 hbt
      go_enter Tryd.func26, Tryd.ntmps26
      go_wp2_with fail
      go_region_law ((go_simp; go_at_call 26; refine (HI.out _).mono ?_; rintro e W1 ⟨rfl, hB1⟩; first | have hcx := HCG.out W1 _ ((hB1.block w.heap.size (by simp)).trans (heap_alloc_new w _)) | skip))
      all_goals
        go_wp2_with fail
        go_ret
        refine ⟨by rw [HR.out]; rfl, ?_⟩
        first
          | exact ((Below.refl _ _).drew.trans (hB1.mono (by simp))).alloc (by have := hB1.size; simpa using this) _
          | exact ((Below.refl _ _).alloc (Nat.le_refl _) _).drew.trans (hB1.mono (by simp))
          | go_grown

/-- What the model has written behind the first parts of an item. -/
def textTo (x : Item) (k : Nat) : List UInt8 := decD x.yield ++ 61 :: Lib.join ((x.parts.take k).map partText) [44]
theorem join_snoc : ∀ (l : List (List UInt8)) (y : List UInt8), l ≠ [] → Lib.join (l ++ [y]) [44] = Lib.join l [44] ++ 44 :: y
  | [], _, h => absurd rfl h
  | [x], y, _ => by rw [List.singleton_append, join_cons2, Lib.join_one, Lib.join_one]
  | x :: z :: r, y, _ => by
    have := join_snoc (z :: r) y (by simp)
    rw [List.cons_append, List.cons_append, join_cons2, ← List.cons_append, this, join_cons2, List.append_assoc]
    rfl
theorem textTo_next {x : Item} {k : Nat} {p : Part} (hp : x.parts[k]? = some p) : textTo x (k + 1) = (if 0 < k then textTo x k ++ [44] else textTo x k) ++ partText p := by
  have hk := (List.getElem?_eq_some_iff.1 hp).1
  have e : x.parts.take (k + 1) = x.parts.take k ++ [p] := by
    rw [List.take_succ_eq_append_getElem hk]
    rw [List.getElem?_eq_getElem hk] at hp
    injection hp with hp
    rw [hp]
  unfold textTo
  rw [e, List.map_append]
  by_cases h : 0 < k
  · rw [if_pos h, show [p].map partText = [partText p] from rfl, join_snoc _ _ (fun e2 => by
      have := congrArg List.length e2
      rw [List.length_map, List.length_take, List.length_nil] at this
      omega)]
    simp
  · obtain rfl : k = 0 := by omega
    rw [if_neg h]
    simp [Lib.join_nil, Lib.join_one]
theorem textTo_len {x : Item} (h : itemOk x 5 = true) (k : Nat) : (textTo x k).length ≤ 1003 := by
  obtain ⟨⟨y0, y1, m0, m1, h3⟩, hp⟩ := itemOk_at h
  have h1 := decD_len (n := x.yield) (by omega)
  have h2 := join_len (ps := x.parts.take k) (by rw [List.length_take]; omega) (fun p hp' => by have := hp p (List.mem_of_mem_take hp'); omega)
  unfold textTo
  rw [List.length_append, List.length_cons]
  omega
theorem heap_ltT {w : World} {X : Nat} {o : Obj} (h : w.heap[X]? = some o) : X < w.heap.size := (Array.getElem?_eq_some_iff.1 h).1
theorem num_any {n : Int} (h0 : 0 ≤ n) (h1 : n < 100) (w : World) : Calls Tryd.prog 26 #[.int .i64 n] w fun e w' => e = .returned (.string ⟨(decD n).toArray⟩) ∧ Below w.heap.size w w' := by
  obtain ⟨m, rfl⟩ : ∃ m : Nat, n = m := ⟨n.toNat, by omega⟩
  unfold decD
  rw [Int.toNat_natCast]
  exact l1Number_any m m (Nat.le_refl _) (by omega) w

set_option maxRecDepth 100000 in
set_option maxHeartbeats 4000000 in
theorem specItemText_any (A : Option Addr) (c : Nat) (x : Item) (w : World) (hps : PartsAt w A x.parts) (hl : x.parts.length ≤ 1048576) :
    Calls Tryd.prog 9 #[.agg #[.int .i64 x.yield, .slice A x.parts.length c, .int .i64 x.marks]] w fun e w' => e = .returned (.string ⟨(itemTextL x).toArray⟩) ∧ Below w.heap.size w w' := by
  have hba : Below w.heap.size w (w.alloc (.cells #[.int .i64 x.yield, .slice A x.parts.length c, .int .i64 x.marks] 25)) := by go_grown
  have hbx := heap_alloc_new w (.cells #[.int .i64 x.yield, .slice A x.parts.length c, .int .i64 x.marks] 25)
  obtain ⟨r, HR⟩ : ∃ r, Hid (itemTextL x = r) := ⟨_, hide rfl⟩
  rw [HR.out]
  go_enter Tryd.func9, Tryd.ntmps9
  go_upto_region 1 with fail
  obtain ⟨W, hW⟩ : ∃ W, w.alloc (.cells #[.int .i64 x.yield, .slice A x.parts.length c, .int .i64 x.marks] 25) = W := ⟨_, rfl⟩
  rw [hW] at hba hbx ⊢
  clear hW
  have c0 : W.cell? ⟨w.heap.size, 0, none⟩ = some (.int .i64 x.yield) := by rw [cell_of_row _ _ 0 _ _ _ hbx]; rfl
  have c1 : W.cell? ⟨w.heap.size, 1, none⟩ = some (.slice A x.parts.length c) := by rw [cell_of_row _ _ 1 _ _ _ hbx]; rfl
  have c2 : W.cell? ⟨w.heap.size, 2, none⟩ = some (.int .i64 x.marks) := by rw [cell_of_row _ _ 2 _ _ _ hbx]; rfl
  go_wp2_with fail
  refine (l1Item_any A c x 5 W (hps.below hba) (by omega) (by omega) hl).mono ?_
  rintro e W1 ⟨rfl, hB1⟩
  have hb1 := next hba hB1
  have hbx1 := (hB1.block w.heap.size (heap_ltT hbx)).trans hbx
  rw [l1L_eq]
  clear c0 c1 c2 hba hbx hB1
  have c0 : W1.cell? ⟨w.heap.size, 0, none⟩ = some (.int .i64 x.yield) := by rw [cell_of_row _ _ 0 _ _ _ hbx1]; rfl
  cases hok : itemOk x 5 with
  | false =>
    have hr : r = [] := by rw [← HR.out]; unfold itemTextL; rw [hok]; rfl
    subst hr
    clear hok
    go_wp2_with fail
    go_ret
    exact ⟨rfl, hb1⟩
  | true =>
    have HOK := hide hok
    obtain ⟨⟨y0, y1, m0, m1, h3⟩, hp⟩ := itemOk_at hok
    have HPP := hide hp
    have hdy := decD_len (n := x.yield) (by omega)
    have hdm := decD_len (n := x.marks) (by omega)
    have ha := add_lists (decD x.yield) [61] (by simp; omega)
    have HT0 : Hid (decD x.yield ++ [61] = textTo x 0) := hide (by unfold textTo; simp [Lib.join_nil])
    have HNY := hide (fun W9 => num_any y0 (show x.yield < 100 by omega) W9)
    have HNM := hide (fun W9 => num_any m0 (show x.marks < 100 by omega) W9)
    clear hok hp
    go_wp2_with fail
    refine (HNY.out W1).mono ?_
    rintro e W2 ⟨rfl, hB2⟩
    have hb2 := next hb1 hB2
    have hbx2 := (hB2.block w.heap.size (heap_ltT hbx1)).trans hbx1
    rw [HT0.out] at ha
    obtain ⟨S0, hS0⟩ : ∃ S0, textTo x 0 = S0 := ⟨_, rfl⟩
    rw [hS0] at ha
    clear c0 hB2 hb1 hbx1
    have HX2 := hide hbx2
    have HB2 := hide hb2
    have HS0 := hide hS0.symm
    clear hbx2 hb2 hS0
    go_wp2_with fail
    go_loopw [3, 4] (fun sv iv wr => ∃ (k : Nat) (SK : List UInt8), k ≤ x.parts.length ∧ iv = .int .i64 k ∧ sv = .string ⟨SK.toArray⟩ ∧ Hid (SK = textTo x k) ∧ Hid (wr.heap[w.heap.size]? = some (.cells #[.int .i64 x.yield, .slice A x.parts.length c, .int .i64 x.marks] 25 (0, 0))) ∧ Hid (Below w.heap.size w wr)) (fun _ iv _ => x.parts.length - (intOf iv).toNat)
    case atStart => exact ⟨0, S0, Nat.zero_le _, rfl, rfl, HS0, HX2, HB2⟩
    case round =>
      clear HX2 HB2 HS0 ha
      obtain ⟨k, SK, hk, rfl, rfl, HSK, HX, HB⟩ := hrel
      have c1 : wr.cell? ⟨w.heap.size, 1, none⟩ = some (.slice A x.parts.length c) := by rw [cell_of_row _ _ 1 _ _ _ HX.out]; rfl
      have c2 : wr.cell? ⟨w.heap.size, 2, none⟩ = some (.int .i64 x.marks) := by rw [cell_of_row _ _ 2 _ _ _ HX.out]; rfl
      have hSKl : SK.length ≤ 1003 := by rw [HSK.out]; exact textTo_len HOK.out k
      by_cases hlt : k < x.parts.length
      · obtain ⟨b, off, rfl, hbl, p0, p1⟩ := (hps.below HB.out) k x.parts[k] (List.getElem?_eq_getElem hlt)
        have HPK : Hid (x.parts[k]? = some x.parts[k]) := hide (List.getElem?_eq_getElem hlt)
        have hpp := HPP.out _ (List.getElem_mem hlt)
        generalize x.parts[k] = p at p0 p1 HPK hpp
        obtain ⟨o0, o1, q0, q1⟩ := hpp
        have hz : (0 : Int) ≤ k := by omega
        have hz2 : (k : Int) < x.parts.length := by omega
        have hdo := decD_len (n := p.of) (by omega)
        have hdq := decD_len (n := p.many) (by omega)
        have HN1 := hide (fun W9 => num_any o0 (show p.of < 100 by omega) W9)
        have HN2 := hide (fun W9 => num_any (show 0 ≤ p.many by omega) (show p.many < 100 by omega) W9)
        have HC : Hid (∀ W9, Below wr.heap.size wr W9 → W9.cell? ⟨w.heap.size, 1, none⟩ = some (.slice (some ⟨b, off, none⟩) x.parts.length c) ∧ W9.cell? ⟨b, off + k * 2, none⟩ = some (.int .i64 p.of) ∧ W9.cell? ⟨b, off + k * 2 + 1, none⟩ = some (.int .i64 p.many)) := hide (fun W9 h9 => ⟨(h9.cell (heap_ltT HX.out)).trans c1, (h9.cell hbl).trans p0, (h9.cell hbl).trans p1⟩)
        by_cases hk0 : 0 < k
        · have hk1 : (0 : Int) < k := by omega
          have HT2 : Hid (textTo x (k + 1) = SK ++ [44] ++ decD p.of ++ [42] ++ decD p.many) := hide (by rw [textTo_next HPK.out, if_pos hk0, ← HSK.out]; unfold partText; simp)
          obtain ⟨S1, hS1⟩ : ∃ S1, SK ++ [44] = S1 := ⟨_, rfl⟩
          have hSl : S1.length ≤ 1004 := by rw [← hS1]; rw [List.length_append]; simp; omega
          have ha0 := add_lists SK [44] (by simp; omega)
          rw [hS1] at ha0
          rw [hS1] at HT2
          have ha1 := add_lists S1 (decD p.of) (by omega)
          have ha2 := add_lists (S1 ++ decD p.of) [42] (by simp; omega)
          have ha3 := add_lists (S1 ++ decD p.of ++ [42]) (decD p.many) (by simp; omega)
          obtain ⟨T1, hT1⟩ : ∃ T1, S1 ++ decD p.of = T1 := ⟨_, rfl⟩
          rw [hT1] at ha1 ha2 ha3 HT2
          obtain ⟨T2, hT2⟩ : ∃ T2, T1 ++ [42] = T2 := ⟨_, rfl⟩
          rw [hT2] at ha2 ha3 HT2
          obtain ⟨T3, hT3⟩ : ∃ T3, T2 ++ decD p.many = T3 := ⟨_, rfl⟩
          rw [hT3] at ha3 HT2
          clear hS1 hT1 hT2 hT3
          go_wp2_with fail
          go_region_held3 (fun W9 => W9.cell? ⟨w.heap.size, 1, none⟩ = some (.slice (some ⟨b, off, none⟩) x.parts.length c) ∧ W9.cell? ⟨b, off + k * 2, none⟩ = some (.int .i64 p.of) ∧ W9.cell? ⟨b, off + k * 2 + 1, none⟩ = some (.int .i64 p.many))
            (first | exact HC.out _ (Below.refl _ _).drew | exact HC.out _ ((Below.refl _ _).drew.trans (hB5.mono (by simp))) | exact HC.out _ ((Below.refl _ _).drew.trans (hB6.mono (by simp))) | exact HC.out _ (((Below.refl _ _).drew.trans (hB5.mono (by simp))).trans (hB6.mono (by have := hB5.size; simpa using this))) | exact HC.out _ (((Below.refl _ _).drew.trans (hB6.mono (by simp))).trans (hB5.mono (by have := hB6.size; simpa using this))))
            (first | (go_at_call 26; (with_reducible refine (HN1.out _).mono ?_); rintro e W5 ⟨rfl, hB5⟩) | (go_at_call 26; (with_reducible refine (HN2.out _).mono ?_); rintro e W6 ⟨rfl, hB6⟩))
          all_goals
            first
              | have hb9 : Below wr.heap.size wr W6 := ((Below.refl _ _).drew.trans (hB5.mono (by simp))).trans (hB6.mono (by have := hB5.size; simpa using this))
              | have hb9 : Below wr.heap.size wr W5 := ((Below.refl _ _).drew.trans (hB6.mono (by simp))).trans (hB5.mono (by have := hB6.size; simpa using this))
            have hx9 := (hb9.block w.heap.size (heap_ltT HX.out)).trans HX.out
            have hw9 := HB.out.trans (hb9.mono HB.out.size)
            go_wp2_with fail
            go_roundw
            case rel => exact ⟨k + 1, T3, hlt, by go_num, rfl, hide HT2.out.symm, hide hx9, hide hw9⟩
            case measure => simp [intOf]; omega
        · have hk1 : ¬ (0 : Int) < k := by omega
          have HT2 : Hid (textTo x (k + 1) = SK ++ decD p.of ++ [42] ++ decD p.many) := hide (by rw [textTo_next HPK.out, if_neg hk0, ← HSK.out]; unfold partText; simp)
          have hSl : SK.length ≤ 1004 := by omega
          have ha1 := add_lists SK (decD p.of) (by omega)
          have ha2 := add_lists (SK ++ decD p.of) [42] (by simp; omega)
          have ha3 := add_lists (SK ++ decD p.of ++ [42]) (decD p.many) (by simp; omega)
          obtain ⟨T1, hT1⟩ : ∃ T1, SK ++ decD p.of = T1 := ⟨_, rfl⟩
          rw [hT1] at ha1 ha2 ha3 HT2
          obtain ⟨T2, hT2⟩ : ∃ T2, T1 ++ [42] = T2 := ⟨_, rfl⟩
          rw [hT2] at ha2 ha3 HT2
          obtain ⟨T3, hT3⟩ : ∃ T3, T2 ++ decD p.many = T3 := ⟨_, rfl⟩
          rw [hT3] at ha3 HT2
          clear hT1 hT2 hT3
          go_wp2_with fail
          go_region_held3 (fun W9 => W9.cell? ⟨w.heap.size, 1, none⟩ = some (.slice (some ⟨b, off, none⟩) x.parts.length c) ∧ W9.cell? ⟨b, off + k * 2, none⟩ = some (.int .i64 p.of) ∧ W9.cell? ⟨b, off + k * 2 + 1, none⟩ = some (.int .i64 p.many))
            (first | exact HC.out _ (Below.refl _ _).drew | exact HC.out _ ((Below.refl _ _).drew.trans (hB5.mono (by simp))) | exact HC.out _ ((Below.refl _ _).drew.trans (hB6.mono (by simp))) | exact HC.out _ (((Below.refl _ _).drew.trans (hB5.mono (by simp))).trans (hB6.mono (by have := hB5.size; simpa using this))) | exact HC.out _ (((Below.refl _ _).drew.trans (hB6.mono (by simp))).trans (hB5.mono (by have := hB6.size; simpa using this))))
            (first | (go_at_call 26; (with_reducible refine (HN1.out _).mono ?_); rintro e W5 ⟨rfl, hB5⟩) | (go_at_call 26; (with_reducible refine (HN2.out _).mono ?_); rintro e W6 ⟨rfl, hB6⟩))
          all_goals
            first
              | have hb9 : Below wr.heap.size wr W6 := ((Below.refl _ _).drew.trans (hB5.mono (by simp))).trans (hB6.mono (by have := hB5.size; simpa using this))
              | have hb9 : Below wr.heap.size wr W5 := ((Below.refl _ _).drew.trans (hB6.mono (by simp))).trans (hB5.mono (by have := hB6.size; simpa using this))
            have hx9 := (hb9.block w.heap.size (heap_ltT HX.out)).trans HX.out
            have hw9 := HB.out.trans (hb9.mono HB.out.size)
            go_wp2_with fail
            go_roundw
            case rel => exact ⟨k + 1, T3, hlt, by go_num, rfl, hide HT2.out.symm, hide hx9, hide hw9⟩
            case measure => simp [intOf]; omega
      · obtain rfl : k = x.parts.length := by omega
        have HE : Hid (r = SK ++ [33] ++ decD x.marks) := hide (by rw [← HR.out, HSK.out]; unfold itemTextL textTo; rw [if_pos HOK.out, List.take_length]; simp)
        have hm1 := add_lists SK [33] (by simp; omega)
        have hm2 := add_lists (SK ++ [33]) (decD x.marks) (by simp; omega)
        obtain ⟨T1, hT1⟩ : ∃ T1, SK ++ [33] = T1 := ⟨_, rfl⟩
        rw [hT1] at hm1 hm2 HE
        obtain ⟨T2, hT2⟩ : ∃ T2, T1 ++ decD x.marks = T2 := ⟨_, rfl⟩
        rw [hT2] at hm2 HE
        obtain rfl : r = T2 := HE.out
        clear hT1 hT2
        go_wp2_with fail
        refine (HNM.out wr).mono ?_
        rintro e W9 ⟨rfl, hB9⟩
        have hb9 := next HB.out hB9
        go_wp2_with fail
        go_ret
        exact ⟨rfl, hb9⟩
end Go.Proofs.YtaelapimchmbcaaDoor
