/- For all drawn bytes the law of ApartValid answers true, and its argument reads as it did.
   Conditions: none. -/
import Derived.Test.YtgpcbigaeodhfaaDoorLawKit
import Derived.Test.YtgpcbigaeodhfaaDoorDrawMenu
import Derived.Test.YtgpcbigaeodhfaaDoorZ3
import Derived.Test.YtgpcbigaeodhfaaDoorZ4
import Derived.Test.YtgpcbigaeodhfaaDoorSeatMath
import Derived.Test.YtgpcbigaeodhfaaDoorSpread0
namespace Go.Proofs.YtgpcbigaeodhfaaDoor
open Go.RowKit Go.ChangeShapes Go.WideShapes Go.ChangeAt Go.Deep

theorem apart_rows {g : Int} {m xs : List Int} (h : apartL g m xs = true) : menuOk g m = true ∧ ∀ a, a < xs.length → rowApart g m xs a = true := by
  unfold apartL at h
  rw [Bool.and_eq_true, allN_iff] at h
  exact h
theorem apart_pair {g : Int} {m xs : List Int} (h : apartL g m xs = true) {a b : Nat} (ha : a < xs.length) (hb : b < a) {e : Int} (he : e ∈ m) (h1 : hasB e (xs.getD a 0).toNat = true) (h2 : hasB e (xs.getD b 0).toNat = true) : False := by
  have h3 := (apart_rows h).2 a ha
  unfold rowApart at h3
  rw [Bool.and_eq_true, allN_iff] at h3
  have h4 := h3.2 b hb
  have h5 : eatsBoth m (xs.getD a 0).toNat (xs.getD b 0).toNat = true := by
    unfold eatsBoth
    rw [List.any_eq_true]
    exact ⟨e, he, by rw [h1, h2]; rfl⟩
  rw [h5] at h4
  simp at h4
theorem apart_tail {g x : Int} {m r : List Int} (h : apartL g m (x :: r) = true) : apartL g m r = true := by
  obtain ⟨hM, hr⟩ := apart_rows h
  unfold apartL
  rw [hM, Bool.true_and, allN_iff]
  intro a ha
  have h1 := hr (a + 1) (by simp; omega)
  unfold rowApart at h1 ⊢
  rw [Bool.and_eq_true, Bool.and_eq_true, allN_iff] at h1
  obtain ⟨⟨h1, h2⟩, h3⟩ := h1
  rw [Bool.and_eq_true, Bool.and_eq_true, allN_iff]
  refine ⟨⟨by simpa using h1, ?_⟩, fun b hb => by simpa using h3 (b + 1) (by omega)⟩
  cases a with
  | zero => simp
  | succ a => simpa using h2
theorem or_asc_all : ∀ (x : Fin 64) (n : Fin 6), (x.val : Int) < 2 ^ n.val → 0 ≤ orI x.val (2 ^ n.val) ∧ orI x.val (2 ^ n.val) < 2 ^ (n.val + 1) ∧ sz (orI x.val (2 ^ n.val)) = sz x.val + 1 := by decide +kernel
theorem asc_sz {g : Int} (g0 : 0 ≤ g) (g1 : g ≤ 6) : ∀ (xs : List Int) (least acc : Int), ascGo g least xs = true → 0 ≤ least → least ≤ g → 0 ≤ acc → acc < 2 ^ least.toNat → 0 ≤ setGo xs acc ∧ setGo xs acc < 2 ^ g.toNat ∧ sz (setGo xs acc) = sz acc + xs.length
  | [], least, acc, _, h0, h1, h2, h3 => by
    refine ⟨h2, ?_, by simp [setGo]⟩
    have : (2 : Int) ^ least.toNat ≤ 2 ^ g.toNat := by
      have := Nat.pow_le_pow_right (show 0 < 2 by omega) (show least.toNat ≤ g.toNat by omega)
      exact_mod_cast this
    unfold setGo
    omega
  | n :: r, least, acc, h, h0, h1, h2, h3 => by
    unfold ascGo at h
    rw [Bool.and_eq_true, inR_iff] at h
    obtain ⟨⟨h4, h5⟩, h6⟩ := h
    have hm : (2 : Int) ^ least.toNat ≤ 2 ^ n.toNat := by
      have := Nat.pow_le_pow_right (show 0 < 2 by omega) (show least.toNat ≤ n.toNat by omega)
      exact_mod_cast this
    have hp := pow_range6 n.toNat (by omega)
    have ho := or_asc_all ⟨acc.toNat, by omega⟩ ⟨n.toNat, by omega⟩ (by simp only [Int.toNat_of_nonneg h2]; omega)
    simp only [Int.toNat_of_nonneg h2] at ho
    have ih := asc_sz g0 g1 r (n + 1) (orI acc (2 ^ n.toNat)) h6 (by omega) (by omega) ho.1 (by rw [show (n + 1).toNat = n.toNat + 1 from by omega]; exact ho.2.1)
    unfold setGo
    refine ⟨ih.1, ih.2.1, ?_⟩
    rw [ih.2.2, ho.2.2, List.length_cons]
    omega
theorem apart_most {g : Int} {m xs : List Int} (h : apartL g m xs = true) : (xs.length : Int) ≤ apartMostL g m := by
  have hM := (apart_rows h).1
  have hg := menuOk_g hM
  rw [apartL_eq hM, Bool.and_eq_true] at h
  have h1 := asc_sz hg.1 hg.2 xs 0 0 h.1 (by omega) (by omega) (by omega) (by decide)
  have h0 : sz 0 = 0 := by decide
  unfold apartMostL
  rw [if_pos hM]
  have e : ((2 ^ g.toNat : Nat) : Int) = (2 : Int) ^ g.toNat := by simp
  have h2 := mostGo_ge (ms := sharersL g m) (2 ^ g.toNat) (setL xs).toNat (by unfold setL; omega) (by rw [Int.toNat_of_nonneg (by unfold setL; exact h1.1)]; exact h.2)
  rw [Int.toNat_of_nonneg (by unfold setL; exact h1.1)] at h2
  unfold setL at h2
  omega

set_option maxRecDepth 100000 in
theorem tail_one {G n d : Nat} {x : Int} {r : List Int} (hn : r.length = n) (hd : n + 1 ≤ d) : ∃ (A9 : Option Addr) (c9 : Nat),
    (∀ W, (Instr.slice 24 (.slice (some ⟨G, 0, none⟩) (n + 1) d) (some (.int .i64 1)) none none).run Tryd.prog W = .ok (.slice A9 n c9) W) ∧ (∀ W, (Instr.sliceAt 24 (.slice (some ⟨G, 0, none⟩) (n + 1) d) (some (.int .i64 1)) none none).run Tryd.prog W = .ok (.slice A9 n c9) W) ∧
    (∀ W, IntsAt W (some ⟨G, 0, none⟩) (x :: r) → IntsAt W A9 r) := by
  have ht : Tryd.prog.underlying 24 = some (.slice (Tryd.prog.elem 24)) := rfl
  have hz : ∀ W, (sizeOf (Tryd.prog.elem 24)).run Tryd.prog W = .ok 1 W := fun W => by rfl
  by_cases h1 : d = 1
  · subst h1
    obtain rfl : n = 0 := by omega
    obtain rfl : r = [] := List.eq_nil_of_length_eq_zero hn
    have : ∀ W, (Instr.slice 24 (.slice (some ⟨G, 0, none⟩) (0 + 1) 1) (some (.int .i64 1)) none none).run Tryd.prog W = .ok (.slice (some ⟨G, 0, none⟩) 0 0) W := fun W => by
      rw [run_slice_l W _ _ _ _ ht .i64 1 (by omega) (by simp), hz]; simp [Result.andThen, sliced]
    exact ⟨_, _, this, fun W => (run_sliceAt_slice W _ _ _ _ _ ht).trans (this W), fun W _ => IntsAt.nil _ _⟩
  · have : ∀ W, (Instr.slice 24 (.slice (some ⟨G, 0, none⟩) (n + 1) d) (some (.int .i64 1)) none none).run Tryd.prog W = .ok (.slice (some ⟨G, 1, none⟩) n (d - 1)) W := fun W => by
      rw [run_slice_l W _ _ _ _ ht .i64 1 (by omega) (by omega), hz]; simp [Result.andThen, sliced, Addr.add, h1]
    exact ⟨_, _, this, fun W => (run_sliceAt_slice W _ _ _ _ _ ht).trans (this W), fun W hW => IntsAt.tail hW⟩

/-- A number of guests, a menu and some of the guests, drawn. -/
def DrawnApartValid (w : World) (e : Ending) (w' : World) : Prop := ∃ (gs : Int) (ls : List Int) (g c : Nat) (xs : List Int) (h d : Nat), e = .returned (.tuple #[.int .i64 gs, .slice (some ⟨g, 0, none⟩) ls.length c, .slice (some ⟨h, 0, none⟩) xs.length d]) ∧
  IntsAt w' (some ⟨g, 0, none⟩) ls ∧ ls.length ≤ 7 ∧ IntsAt w' (some ⟨h, 0, none⟩) xs ∧ xs.length ≤ 8 ∧ xs.length ≤ d ∧ Below w.heap.size w w'

set_option maxRecDepth 100000 in
set_option maxHeartbeats 4000000 in
theorem drawApartValid_any (A : Option Addr) (c m : Nat) (w : World) (hB : BytesIn w A m) (hm : m ≤ 9223372036854775807) (hc : m ≤ c) (hc2 : c ≤ 9223372036854775807) :
    Calls Tryd.prog 22 #[.slice A m c] w (DrawnApartValid w) := by
  go_enter Tryd.func22, Tryd.ntmps22
  go_wp2_with fail
  refine (open_any A c m w hB hm hc hc2).mono ?_
  rintro e w1 ⟨rfl, hR1, hb1⟩
  have hz1 := hb1.size
  have hlt1 := hR1.lt
  go_wp2_with fail
  refine (l20Menu_any w.heap.size 0 9 _ hR1 (by omega) (by omega)).mono ?_
  rintro e w2 ⟨gs, ls, g, c2, rfl, hS2, hl7, hle, hg0, hg7, hR2, hg2⟩
  have hz2 := hg2.size
  have hlt2 := hR2.lt
  obtain ⟨Q, HQL⟩ : ∃ Q, Hid (ls.length = Q) := ⟨_, hide rfl⟩
  rw [HQL.out] at hS2 hl7 ⊢
  have hgg := hS2.cap.2.2.2
  have hgl1 := hgg.1
  have hgl2 := hgg.2
  have HB2 : Hid (Below w.heap.size w w2) := hide (hb1.grown hg2 hz1 (fun j hj => by injection hj with hj; omega))
  have HQ2 : Hid (IntSl (w2.alloc (.cells #[] 3)) w1.heap.size (.slice (some ⟨g, 0, none⟩) Q c2) ls) := hide (World.ownsRow.alloc hS2 _)
  have HS2 : Hid (IntSl (w2.alloc (.cells #[] 3)) w2.heap.size (.slice (some ⟨w2.heap.size, 0, none⟩) 0 0) []) := hide (World.ownsRow_lit w2 #[] 0 (Nat.le_refl _) (by unfold maxLen; omega) rfl)
  have HR2 : Hid (Rd (w2.alloc (.cells #[] 3)) w.heap.size (0 + 20)) := hide (hR2.kept (fun j hj => heap_alloc_old w2 _ (by omega)))
  have HBA : Hid (Below w.heap.size w (w2.alloc (.cells #[] 3))) := hide (HB2.out.alloc HB2.out.size _)
  have hzz := HB2.out.size
  clear hg2 hS2 hle hgg hR2 HB2
  go_wp2_with fail
  go_loopw [8, 9] (fun v i wr => ∃ (k : Nat) (l : List Int) (L g4 c4 : Nat), k ≤ 7 ∧ i = .int .i64 k ∧ L ≤ k ∧ v = .slice (some ⟨g4, 0, none⟩) L c4 ∧ Hid (l.length = L) ∧ IntSl wr w2.heap.size (.slice (some ⟨g4, 0, none⟩) L c4) l ∧ IntSl wr w1.heap.size (.slice (some ⟨g, 0, none⟩) Q c2) ls ∧ Rd wr w.heap.size (20 + k) ∧ Below w.heap.size w wr ∧ w2.heap.size ≤ g4) (fun _ i _ => 7 - (intOf i).toNat)
  case atStart => exact ⟨0, [], 0, w2.heap.size, 0, by omega, rfl, by omega, rfl, hide rfl, HS2.out, HQ2.out, HR2.out.mono (by omega), HBA.out, Nat.le_refl _⟩
  case round =>
    clear HS2 HQ2 HR2 HBA
    obtain ⟨k, l, L, g4, c4, hk, rfl, hLk, rfl, HLL, hS, hQ, hR, hb, hg4⟩ := hrel
    have hlL : l.length ≤ L := Nat.le_of_eq HLL.out
    have hlL2 : l.length ≤ 7 := by omega
    have HS0 := hide hS
    have HQ0 := hide hQ
    have HB0 := hide hb
    have HR0 := hide hR
    have hbs := hb.size
    clear hS hQ hb hR
    by_cases hkg : (k : Int) < gs
    · by_cases hk7 : (k : Int) < 7
      · have hk0 : (0 : Int) ≤ k := by omega
        go_wp2_with fail
        refine (pick_any _ _ 3 _ HR0.out (by omega) (by omega)).mono ?_
        rintro e w4 ⟨q3, rfl, hq30, hq31, hR4, hg4w⟩
        have HS := hide (HS0.out.pick (by omega) hg4w)
        have HQ := hide (HQ0.out.pick (by omega) hg4w)
        have HB := hide (HB0.out.grown hg4w HB0.out.size (fun j hj => by injection hj with hj; omega))
        have HR := hide hR4
        have hlq := World.ownsRow.lt HS.out g4 rfl
        have hlq2 := hlq.2
        clear hg4w hR4 hlq HS0 HQ0 HB0 HR0
        by_cases hq : q3 = 0
        · subst hq
          go_wp2_with (at_builtin; refine wpList_wanted (by rfl) (wp_push_intG _ _ (by rfl) w2.heap.size (.slice (some ⟨g4, 0, none⟩) L c4) l (by rfl) (World.ownsRow.alloc HS.out _) w4.heap.size ((k : Int)) (by rfl) (heap_alloc_new w4 _) (by omega) (by simp; omega) ?_); intro g5 cap w5 hown hgrow; have HS5 := hide hown; have HQ5 := hide (IntSl.row (World.ownsRow.alloc HQ.out _) hgrow (.inr (fun e => by have e : some g = some g4 := e; injection e with e; omega))); have HR5 := hide (rd_grown (HR.out.kept (fun j hj => heap_alloc_old w4 _ (by have := HR.out.lt; omega))) hgrow (fun k hk => by have hk : some g4 = some k := hk; injection hk with hk; omega)); have HB5 := hide ((HB.out.alloc HB.out.size _).grown hgrow (by have := HB.out.size; simp; omega) (fun k hk => by have hk : some g4 = some k := hk; injection hk with hk; omega)); clear hown hgrow)
          have hl5 := (World.ownsRow.lt HS5.out g5 rfl).1
          go_roundw
          case rel => exact ⟨k + 1, l ++ [(k : Int)], l.length + 1, g5, cap, by omega, by go_num, by omega, by rfl, hide (by simp), HS5.out, HQ5.out, HR5.out.mono (by omega), HB5.out, hl5⟩
          case measure => simp [intOf]; omega
        · have hqb : (q3 == 0) = false := by simpa using hq
          go_wp2_with fail
          go_roundw
          case rel => exact ⟨k + 1, l, L, g4, c4, by omega, by go_num, by omega, rfl, HLL, HS.out, HQ.out, HR.out.mono (by omega), HB.out, hg4⟩
          case measure => simp [intOf]; omega
      · exfalso; omega
    · go_wp2_with fail
      refine (odd_any _ _ 14 _ HR0.out (by omega) (by omega)).mono ?_
      rintro e w4 ⟨β, rfl, hR4, hg4w⟩
      have HS := hide (HS0.out.pick (by omega) hg4w)
      have HQ := hide (HQ0.out.pick (by omega) hg4w)
      have HB := hide (HB0.out.grown hg4w HB0.out.size (fun j hj => by injection hj with hj; omega))
      have HR := hide hR4
      have hlq := World.ownsRow.lt HS.out g4 rfl
      have hlq2 := hlq.2
      clear hg4w hR4 hlq HS0 HQ0 HB0 HR0
      cases β with
      | false =>
        go_wp2_with fail
        refine bodyPost_ret (results_tmp3 rfl _ _ _) rfl ⟨gs, ls, g, c2, l, g4, c4, by rw [HQL.out, HLL.out]; rfl, HQ.out.ints, by rw [HQL.out]; exact hl7, HS.out.ints, by omega, by rw [HLL.out]; exact HS.out.cap.2.1, HB.out⟩
      | true =>
        have HS9 := hide HS.out
        have HQ9 := hide HQ.out
        have HB9 := hide HB.out
        have HR9 := hide HR.out
        clear HS HQ HB HR
        go_wp2_with fail
        refine (pick_any _ _ 8 _ HR9.out (by omega) (by omega)).mono ?_
        rintro e w4 ⟨q8, rfl, hq80, hq81, hR4, hg4w⟩
        have HS := hide (HS9.out.pick (by omega) hg4w)
        have HQ := hide (HQ9.out.pick (by omega) hg4w)
        have HB := hide (HB9.out.grown hg4w HB9.out.size (fun j hj => by injection hj with hj; omega))
        have HR := hide hR4
        have hlq := World.ownsRow.lt HS.out g4 rfl
        have hlq2 := hlq.2
        clear hg4w hR4 hlq HS9 HQ9 HB9 HR9
        go_wp2_with (at_builtin; refine wpList_wanted (by rfl) (wp_push_intG _ _ (by rfl) w2.heap.size (.slice (some ⟨g4, 0, none⟩) L c4) l (by rfl) (World.ownsRow.alloc HS.out _) w4.heap.size (q8) (by rfl) (heap_alloc_new w4 _) (by omega) (by simp; omega) ?_); intro g5 cap w5 hown hgrow; have HS5 := hide hown; have HQ5 := hide (IntSl.row (World.ownsRow.alloc HQ.out _) hgrow (.inr (fun e => by have e : some g = some g4 := e; injection e with e; omega))); have HR5 := hide (rd_grown (HR.out.kept (fun j hj => heap_alloc_old w4 _ (by have := HR.out.lt; omega))) hgrow (fun k hk => by have hk : some g4 = some k := hk; injection hk with hk; omega)); have HB5 := hide ((HB.out.alloc HB.out.size _).grown hgrow (by have := HB.out.size; simp; omega) (fun k hk => by have hk : some g4 = some k := hk; injection hk with hk; omega)); clear hown hgrow)
        refine bodyPost_ret (results_tmp3 rfl _ _ _) rfl ⟨gs, ls, g, c2, l ++ [q8], g5, cap, by rw [HQL.out, List.length_append]; rfl, HQ5.out.ints, by rw [HQL.out]; exact hl7, HS5.out.ints, by simp; omega, by rw [List.length_append]; exact HS5.out.cap.2.1, HB5.out⟩

set_option maxRecDepth 100000 in
set_option maxHeartbeats 4000000 in
theorem lawApartValid_any (A : Option Addr) (c m : Nat) (w : World) (hB : BytesIn w A m) (hc : m ≤ c) (hc2 : c ≤ 9223372036854775807) :
    Calls Tryd.prog 5 #[.slice A m c] w fun e w' => e = .returned (.bool true) ∧ Below w.heap.size w w' := by
  by_cases hlen : (1048576 : Int) < m
  · go_enter Tryd.func5, Tryd.ntmps5
    go_wp2_with fail
    go_ret
    exact ⟨rfl, by go_grown⟩
  · go_enter Tryd.func5, Tryd.ntmps5
    go_wp2_with fail
    refine (drawApartValid_any A c m w hB (by omega) hc hc2).mono ?_
    rintro e w1 ⟨gs, ls, g, c1, xs, h, d, rfl, hI, hl7, hX, hx8, hxd, hb1⟩
    have HI1 := hide hI
    have HX1 := hide hX
    obtain ⟨v, HV⟩ : ∃ v, Hid (apartL gs ls xs = v) := ⟨_, hide rfl⟩
    have hbb : (v != v) = false := by simp
    clear hI hX
    go_wp2_with fail
    refine (implApartValid_any _ _ _ _ _ _ _ _ HI1.out (by omega) HX1.out (by omega)).mono ?_
    rintro e w2 ⟨rfl, hB2⟩
    rw [HV.out]
    have hb2 := next hb1 hB2
    have HI2 := hide (HI1.out.below hB2)
    have HX2 := hide (HX1.out.below hB2)
    clear hB2 HI1 HX1
    go_wp2_with fail
    refine (specApartValid_any _ _ _ _ _ _ _ _ HI2.out (by omega) HX2.out (by omega)).mono ?_
    rintro e w3 ⟨rfl, hB3⟩
    rw [HV.out]
    have hb3 := next hb2 hB3
    have HI3 := hide (HI2.out.below hB3)
    have HX3 := hide (HX2.out.below hB3)
    clear hB3 HI2 HX2
    cases v with
    | false =>
      clear HV
      go_wp2_with fail
      refine (alive_any _).mono ?_
      rintro e we ⟨rfl, hBe⟩
      go_wp2_with fail
      go_ret
      exact ⟨rfl, next hb3 hBe⟩
    | true =>
      cases xs with
      | nil =>
        clear HV
        go_wp2_with fail
        refine (alive_any _).mono ?_
        rintro e we ⟨rfl, hBe⟩
        go_wp2_with fail
        go_ret
        exact ⟨rfl, next hb3 hBe⟩
      | cons x r =>
        obtain ⟨n, hn⟩ : ∃ n, r.length = n := ⟨_, rfl⟩
        have hln : (x :: r).length = n + 1 := by rw [List.length_cons, hn]
        have hM := (apart_rows HV.out).1
        have hgb := menuOk_g hM
        have hg0 := hgb.1
        have hg1 := hgb.2
        have HM : Hid (∀ y ∈ ls, 0 ≤ y ∧ y < 64) := hide (fun y hy => ⟨(menuOk_at hM hy).1, (menuOk_at hM hy).2.2⟩)
        have HRG : Hid (∀ a, a < (x :: r).length → 0 ≤ (x :: r).getD a 0 ∧ (x :: r).getD a 0 ≤ gs - 1) := hide (fun a ha => row_range ((apart_rows HV.out).2 a ha))
        have HRT : Hid (apartL gs ls r = true) := hide (apart_tail HV.out)
        obtain ⟨mm, HMM⟩ : ∃ mm, Hid (apartMostL gs ls = mm) := ⟨_, hide rfl⟩
        have hmm : (n : Int) + 1 ≤ mm := by
          have := apart_most HV.out
          rw [HMM.out, hln] at this
          omega
        obtain ⟨X, HXX⟩ : ∃ X, Hid (x :: r = X) := ⟨_, hide rfl⟩
        have hd1 : n + 1 ≤ d := by rw [← hln]; exact hxd
        obtain ⟨A9, c9, hsl1, hsl2, hA9⟩ := tail_one (G := h) (x := x) hn hd1
        have HT9 : Hid (∀ W, IntsAt W (some ⟨h, 0, none⟩) X → IntsAt W A9 r) := hide (fun W hW => hA9 W (by rw [HXX.out]; exact hW))
        have hn8 : n + 1 ≤ 8 := by rw [← hln]; exact hx8
        rw [HXX.out] at HX3 HRG HV hln ⊢
        rw [hln]
        have hn0 : (((n + 1 : Nat) : Int) == 0) = false := beq_false_of_ne (by omega)
        have hmd : decide (((n + 1 : Nat) : Int) ≤ mm) = true := decide_eq_true (by omega)
        have hmd2 : decide ((n : Int) + 1 ≤ mm) = true := decide_eq_true hmm
        clear hA9 hM hgb hx8 hxd
        go_wp2_with fail
        go_loopw [7] (fun i wr => ∃ k : Nat, k ≤ ls.length ∧ i = .int .i64 k ∧ Below w3.heap.size w3 wr) (fun i _ => ls.length - (intOf i).toNat)
        case atStart => exact ⟨0, Nat.zero_le _, rfl, Below.refl _ _⟩
        case round =>
          obtain ⟨k, hk, rfl, hbk⟩ := hrel
          by_cases hlt : k < ls.length
          · have hz3 : (k : Int) < ls.length := by omega
            have hz : (0 : Int) ≤ k := by omega
            have HEK : Hid (ls[k]? = some ls[k]) := hide (List.getElem?_eq_getElem hlt)
            have HEM : Hid (ls[k] ∈ ls) := hide (List.getElem_mem hlt)
            have hx := HM.out ls[k] (List.getElem_mem hlt)
            generalize ls[k] = e at *
            have HBk := hide hbk
            clear hbk
            go_wp2_with fail
            go_loopw [8, 9] (fun nv i wr => ∃ (j : Nat) (s : Int), j ≤ n + 1 ∧ i = .int .i64 j ∧ nv = .int .i64 s ∧ 0 ≤ s ∧ s ≤ 1 ∧ Hid (s = 1 → ∃ b, b < j ∧ hasB e (X.getD b 0).toNat = true) ∧ Below w3.heap.size w3 wr) (fun _ i _ => n + 1 - (intOf i).toNat)
            case atStart => exact ⟨0, 0, Nat.zero_le _, rfl, rfl, by omega, by omega, hide (fun h => by omega), HBk.out⟩
            case round =>
              clear HBk
              obtain ⟨j, s, hj, rfl, rfl, hs0, hs1, HSB, hbj⟩ := hrel
              by_cases hjl : j < n + 1
              · have hj0 : (0 : Int) ≤ j := by omega
                have hj1 : (j : Int) < n + 1 := by omega
                have hj2 : (j : Int) < ((n + 1 : Nat) : Int) := by omega
                have hjX : j < X.length := by omega
                have HYE : Hid (X[j]? = some X[j]) := hide (List.getElem?_eq_getElem hjX)
                have HYD : Hid (X.getD j 0 = X[j]) := hide (by simp [hjX])
                have hyr := HRG.out j hjX
                rw [HYD.out] at hyr
                generalize X[j] = y at *
                have hy0 : 0 ≤ y := hyr.1
                have hy6 : y < 6 := by omega
                have hcm := (HI3.out.below hbj).cellOf HEK.out
                have hcy := (HX3.out.below hbj).cellOf HYE.out
                rw [Nat.zero_add] at hcm hcy
                have hdd := div_range e y.toNat hx.1 hx.2
                have HBj := hide hbj
                clear hyr hbj
                cases hh : hasB e y.toNat with
                | false =>
                  have hf : e / 2 ^ y.toNat % 2 = 0 := by
                    have : (e / 2 ^ y.toNat % 2 == 1) = false := hh
                    have := beq_eq_false_iff_ne.1 this
                    omega
                  have hws : IntKind.i64.wrap s = s := IntWalk.i64_in _ (by omega)
                  have HSB2 : Hid (s = 1 → ∃ b, b < j + 1 ∧ hasB e (X.getD b 0).toNat = true) := hide (fun h => by
                    obtain ⟨b, h1, h2⟩ := HSB.out h
                    exact ⟨b, by omega, h2⟩)
                  clear hh
                  go_wp2_with fail
                  go_quiet (fail)
                  go_wp2_with fail
                  go_roundw
                  case rel => exact ⟨j + 1, s, by omega, by go_num, by first | rfl | simp [hf, hws], hs0, hs1, HSB2, below_drewN HBj.out _⟩
                  case measure => simp [intOf]; omega
                | true =>
                  have hf : e / 2 ^ y.toNat % 2 = 1 := by
                    have : (e / 2 ^ y.toNat % 2 == 1) = true := hh
                    simpa using this
                  have hs : s = 0 := by
                    rcases Int.lt_or_le s 1 with h | h
                    · omega
                    · obtain ⟨b, h1, h2⟩ := HSB.out (by omega)
                      exact (apart_pair HV.out hjX h1 HEM.out (by rw [HYD.out]; exact hh) h2).elim
                  have hws : IntKind.i64.wrap (s + 1) = s + 1 := IntWalk.i64_in _ (by omega)
                  have hs3 : s + 1 = 1 := by omega
                  have HSB2 : Hid (s + 1 = 1 → ∃ b, b < j + 1 ∧ hasB e (X.getD b 0).toNat = true) := hide (fun _ => ⟨j, by omega, by rw [HYD.out]; exact hh⟩)
                  have hs4 : 0 ≤ s + 1 := by omega
                  have hs5 : s + 1 ≤ 1 := by omega
                  clear hh hs3 hs
                  go_wp2_with fail
                  go_quiet (fail)
                  go_wp2_with fail
                  go_roundw
                  case rel => exact ⟨j + 1, s + 1, by omega, by go_num, rfl, hs4, hs5, HSB2, below_drewN HBj.out _⟩
                  case measure => simp [intOf]; omega
              · have hj1 : ¬ (j : Int) < n + 1 := by omega
                have hj2 : ¬ (j : Int) < ((n + 1 : Nat) : Int) := by omega
                have hs2 : ¬ (1 : Int) < s := by omega
                go_wp2_with fail
                go_roundw
                case rel => exact ⟨k + 1, hlt, by go_num, hbj⟩
                case measure => simp [intOf]; omega
          · have hz3 : ¬ (k : Int) < ls.length := by omega
            have hb4 := next hb3 hbk
            have HC1 : Hid (Calls Tryd.prog 23 #[.int .i64 gs, .slice (some ⟨g, 0, none⟩) ls.length c1, .slice A9 n c9] wr fun e w' => e = .returned (.bool true) ∧ Below wr.heap.size wr w') := hide (by
              have := implApartValid_any gs (some ⟨g, 0, none⟩) A9 c1 c9 ls r wr (HI3.out.below hbk) (by omega) (HT9.out _ (HX3.out.below hbk)) (by omega)
              rwa [HRT.out, hn] at this)
            go_wp2_with fail
            refine HC1.out.mono ?_
            rintro e w5 ⟨rfl, hB5⟩
            have HI5 := hide ((HI3.out.below hbk).below hB5)
            go_wp2_with fail
            refine (implApartMost_any _ _ _ _ _ HI5.out (by omega)).mono ?_
            rintro e w6 ⟨rfl, hB6⟩
            rw [HMM.out]
            go_wp2_with fail
            go_ret
            exact ⟨by simp, next (next hb4 hB5) hB6⟩
end Go.Proofs.YtgpcbigaeodhfaaDoor
