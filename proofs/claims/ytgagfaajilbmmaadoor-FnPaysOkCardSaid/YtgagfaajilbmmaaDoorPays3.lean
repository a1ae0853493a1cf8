/- PaysOk: contracts of the program and of the reference model; the set of those who are open.
   Conditions: lists have at most 1048576 elements. -/
import Derived.Test.YtgagfaajilbmmaaDoorPays2
namespace Go.Proofs.YtgagfaajilbmmaaDoor
open Go.RowKit Go.ChangeShapes Go.WideShapes Go.ChangeAt Go.Deep

def openGo : Nat → List Int → Int
  | _, [] => 0
  | k, x :: r => (if (x != 0) = true then 2 ^ k else 0) + openGo (k + 1) r
def openS (xs : List Int) : Int := openGo 0 xs

theorem openGo_range : ∀ (xs : List Int) (k : Nat), 0 ≤ openGo k xs ∧ openGo k xs + 2 ^ k ≤ 2 ^ (k + xs.length)
  | [], k => by simp [openGo]
  | x :: r, k => by
    have ih := openGo_range r (k + 1)
    have h2 : (2 : Int) ^ (k + 1) = 2 ^ k + 2 ^ k := by rw [Int.pow_succ]; omega
    have h0 : (0 : Int) ≤ 2 ^ k := Int.pow_nonneg (by omega)
    rw [List.length_cons, show k + (r.length + 1) = k + 1 + r.length from by omega]
    unfold openGo
    split <;> omega

theorem openGo_zero : ∀ (xs : List Int) (k : Nat), (openGo k xs == 0) = xs.all (· == 0)
  | [], k => by simp [openGo]
  | x :: r, k => by
    have ih := openGo_zero r (k + 1)
    have hr := openGo_range r (k + 1)
    have h1 : (1 : Int) ≤ 2 ^ k := by have := Int.pow_pos (n := 2) (m := k) (by omega); omega
    unfold openGo
    rw [List.all_cons, ← ih]
    by_cases hx : x = 0
    · subst hx
      simp
    · rw [if_pos (by simpa using hx)]
      have e1 : (x == 0) = false := by simpa using hx
      rw [e1, Bool.false_and]
      simp
      omega

theorem openS_zero (xs : List Int) : (openS xs == 0) = xs.all (· == 0) := openGo_zero xs 0

theorem or_bit_all : ∀ k : Fin 7, ∀ s : Fin 128, s.val < 2 ^ k.val → bits .or .i64 (s.val : Int) (wrap64 (2 ^ k.val)) = (s.val : Int) + 2 ^ k.val := by decide +kernel

theorem or_bit {s : Int} {k : Nat} (h0 : 0 ≤ s) (h1 : s < 2 ^ k) (hk : k < 7) : bits .or .i64 s (wrap64 (2 ^ k)) = s + 2 ^ k := by
  obtain ⟨n, rfl⟩ := Int.eq_ofNat_of_zero_le h0
  have hn : n < 2 ^ k := by
    have e : ((2 : Int) ^ k) = ((2 ^ k : Nat) : Int) := by simp
    rw [e] at h1
    omega
  have h2 : (2 : Nat) ^ k ≤ 2 ^ 6 := Nat.pow_le_pow_right (by omega) (by omega)
  have := or_bit_all ⟨k, hk⟩ ⟨n, by have : (2 : Nat) ^ 6 = 64 := rfl; omega⟩ hn
  exact this

theorem pow7 {k : Nat} (hk : k ≤ 7) : (1 : Int) ≤ 2 ^ k ∧ (2 : Int) ^ k ≤ 128 := by
  have e : ((2 : Int) ^ k) = ((2 ^ k : Nat) : Int) := by simp
  have h2 : (2 : Nat) ^ k ≤ 2 ^ 7 := Nat.pow_le_pow_right (by omega) hk
  have h1 : 1 ≤ (2 : Nat) ^ k := Nat.one_le_two_pow
  have : (2 : Nat) ^ 7 = 128 := rfl
  rw [e]
  omega

set_option maxHeartbeats 400000 in
theorem openSet_any (A : Option Addr) (c : Nat) (xs : List Int) (w : World) (hA : IntsAt w A xs) (hl : xs.length ≤ 7) :
    Calls Tryd.prog 86 #[.slice A xs.length c] w fun e w' => e = .returned (.int .i64 (openS xs)) ∧ w = w' := by
  go_enter Tryd.func86, Tryd.ntmps86
  go_wp2_with fail
  go_loopw [3, 8] (fun sv i wr => ∃ (k : Nat) (s : Int), k ≤ xs.length ∧ i = .int .i64 k ∧ sv = .int .i64 s ∧ 0 ≤ s ∧ Hid (s < 2 ^ k) ∧ Hid (openS xs = s + openGo k (xs.drop k)) ∧ w = wr) (fun _ i _ => xs.length - (intOf i).toNat)
  case atStart => exact ⟨0, 0, Nat.zero_le _, rfl, rfl, by omega, hide (by simp), hide (by simp [openS]), rfl⟩
  case round =>
    obtain ⟨k, s, hk, rfl, rfl, hs0, HS, HG, rfl⟩ := hrel
    by_cases hlt : k < xs.length
    · obtain ⟨b, off, rfl, hbl, hc1⟩ := hA k xs[k] (List.getElem?_eq_getElem hlt)
      have HD : Hid (xs.drop k = xs[k] :: xs.drop (k + 1)) := hide (List.drop_eq_getElem_cons hlt)
      generalize xs[k] = p at *
      have hz : (0 : Int) ≤ k := by omega
      have hz2 : (k : Int) < xs.length := by omega
      have h2 : Hid ((2 : Int) ^ (k + 1) = 2 ^ k + 2 ^ k ∧ (1 : Int) ≤ 2 ^ k) := hide ⟨by rw [Int.pow_succ]; omega, (pow7 (by omega)).1⟩
      cases hp : (p != 0) with
      | false =>
        have H3 : Hid (openS xs = s + openGo (k + 1) (xs.drop (k + 1))) := hide (by rw [HG.out, HD.out, openGo, hp]; simp)
        go_wp2_with fail
        go_roundw
        case rel => exact ⟨k + 1, s, hlt, by go_num, rfl, hs0, hide (by have := h2.out; have := HS.out; omega), H3, trivial⟩
        case measure => simp [intOf]; omega
      | true =>
        have H3 : Hid (openS xs = (s + 2 ^ k) + openGo (k + 1) (xs.drop (k + 1))) := hide (by rw [HG.out, HD.out, openGo, hp, if_pos rfl]; omega)
        have HO := hide (or_bit hs0 HS.out (show k < 7 by omega))
        go_wp2_with fail
        go_roundw
        case rel => exact ⟨k + 1, s + 2 ^ k, hlt, by go_num, by rw [HO.out], by have := h2.out; omega, hide (by have := h2.out; have := HS.out; omega), H3, trivial⟩
        case measure => simp [intOf]; omega
    · have H3 : Hid (openS xs = s) := hide (by rw [HG.out, List.drop_of_length_le (by omega), openGo]; omega)
      go_wp2_with fail
      go_ret
      exact ⟨by rw [H3.out]; rfl, rfl⟩

theorem box3_keep {wa w' : World} {g : Nat} {u v z : Value} (h : wa.cell? ⟨g, 0, none⟩ = some u ∧ wa.cell? ⟨g, 1, none⟩ = some v ∧ wa.cell? ⟨g, 2, none⟩ = some z ∧ g < wa.heap.size) (hB : Below wa.heap.size wa w') :
    w'.cell? ⟨g, 0, none⟩ = some u ∧ w'.cell? ⟨g, 1, none⟩ = some v ∧ w'.cell? ⟨g, 2, none⟩ = some z ∧ g < w'.heap.size :=
  ⟨(hB.cell h.2.2.2).trans h.1, (hB.cell h.2.2.2).trans h.2.1, (hB.cell h.2.2.2).trans h.2.2.1, Nat.lt_of_lt_of_le h.2.2.2 hB.size⟩

set_option maxHeartbeats 1000000 in
theorem implPaysOk_any (A : Addr) (B : Option Addr) (c d : Nat) (xs : List Int) (ls : List Pay) (w : World) (hA : IntsAt w (some A) xs) (hl : xs.length ≤ 1048576) (hB : PaysAt w B ls) (hm : ls.length ≤ 1048576) :
    Calls Tryd.prog 36 #[.slice (some A) xs.length c, .slice B ls.length d] w fun e w' => e = .returned (.bool (paysOkL xs ls)) ∧ Below w.heap.size w w' := by
  cases hI : owedOk xs with
  | false =>
    have HI := hide hI
    have HR : Hid (paysOkL xs ls = false) := hide (by unfold paysOkL; rw [hI]; rfl)
    clear hI
    go_enter Tryd.func36, Tryd.ntmps36
    go_wp2_with fail
    refine (implOwedValid_any _ _ _ _ hA hl).mono ?_
    rintro e w1 ⟨rfl, hB1⟩
    rw [HI.out]
    go_wp2_with fail
    go_ret
    exact ⟨by rw [HR.out]; rfl, hB1⟩
  | true =>
    have HI := hide hI
    have h7 := owedOk_len hI
    have HR : Hid (paysOkL xs ls = paysGo ls xs) := hide (by unfold paysOkL; rw [hI]; rfl)
    clear hI
    go_enter Tryd.func36, Tryd.ntmps36
    go_wp2_with fail
    refine (implOwedValid_any _ _ _ _ hA hl).mono ?_
    rintro e w1 ⟨rfl, hB1⟩
    rw [HI.out]
    have hsz1 := hB1.size
    go_wp2_with fail
    refine (clone_any _ _ _ _ (hA.below hB1) hl).mono ?_
    rintro e w2 ⟨C, cc, rfl, hS, hB2⟩
    have hb2 := next hB1 hB2
    have HS := hide (hS.mono hsz1)
    clear hS hA hB1 hB2
    go_wp2_with fail
    go_loopw [15] (fun i wr => ∃ (k : Nat) (ys : List Int), k ≤ ls.length ∧ i = .int .i64 k ∧ Hid (ys.length = xs.length) ∧ Hid (paysOkL xs ls = paysGo (ls.drop k) ys) ∧ IntSl wr w.heap.size (.slice (some C) xs.length cc) ys ∧ Below w.heap.size w wr) (fun i _ => ls.length - (intOf i).toNat)
    case atStart => exact ⟨0, xs, Nat.zero_le _, rfl, hide rfl, HR, HS.out, hb2⟩
    case round =>
      clear HS hb2
      obtain ⟨k, ys, hk, rfl, HL, HG, hS, hb⟩ := hrel
      have hsz := hb.size
      by_cases hlt : k < ls.length
      · obtain ⟨b, off, rfl, hbl, hc1, hc2, hc3⟩ := (hB.below hb) k ls[k] (List.getElem?_eq_getElem hlt)
        have HD : Hid (ls.drop k = ls[k] :: ls.drop (k + 1)) := hide (List.drop_eq_getElem_cons hlt)
        generalize ls[k] = p at *
        have hz : (0 : Int) ≤ k := by omega
        have hz2 : (k : Int) < ls.length := by omega
        go_wp2_with fail
        refine (payFits_any p xs.length _ hl).mono ?_
        rintro e w3 ⟨rfl, hB3⟩
        cases hP : payOk p xs.length with
        | false =>
          have H3 : Hid (paysOkL xs ls = false) := hide (by rw [HG.out, HD.out, paysGo, HL.out, hP]; rfl)
          have hb3 : Below w.heap.size w w3 := next (by go_grown : Below w.heap.size w (wr.alloc _)) hB3
          go_wp2_with fail
          go_ret
          exact ⟨by rw [H3.out]; rfl, hb3⟩
        | true =>
          have H3 : Hid (paysOkL xs ls = paysGo (ls.drop (k + 1)) (carry p ys)) := hide (by rw [HG.out, HD.out, paysGo, HL.out, hP]; rfl)
          have HP := hide hP
          obtain ⟨f, t, hf, ht, hfn, htn, htf, hd0, hd1⟩ := payOk_parts hP
          obtain ⟨g, cap, e, hg0, hg1⟩ := hS.own (by rw [HL.out]; omega)
          injection e with e1 e2 e3
          clear e2
          injection e1 with e1
          subst e1 e3
          have hx3 := box3_keep (g := wr.heap.size) (u := .int .i64 p.frm) (v := .int .i64 p.tow) (z := .int .i64 p.sum) (by simp) hB3
          have hS3 := IntSl.below (w := wr.alloc (.cells #[.int .i64 p.frm, .int .i64 p.tow, .int .i64 p.sum] 65)) (World.ownsRow.alloc hS _) hB3
          have hb3 : Below w.heap.size w w3 := next (by go_grown : Below w.heap.size w (wr.alloc _)) hB3
          obtain ⟨hx30, hx31, hx32, -⟩ := hx3
          clear hP hf ht hfn htn htf hd0 hd1 hS hB3
          go_wp2_with fail
          refine (carryOut_any w.heap.size g _ _ ys p _ HL.out HP hS3).mono ?_
          rintro e w4 ⟨rfl, hS4, hg4⟩
          have hb4 : Below w.heap.size w w4 := hb3.grown hg4 hb3.size (fun k hk => by injection hk with hk; omega)
          go_wp2_with fail
          go_roundw
          case rel => exact ⟨k + 1, carry p ys, hlt, by go_num, hide (by rw [carry_len]; exact HL.out), H3, hS4, hb4⟩
          case measure => simp [intOf]; omega
      · have H3 : Hid (paysOkL xs ls = (openS ys == 0)) := hide (by rw [HG.out, List.drop_of_length_le (by omega), paysGo, openS_zero])
        have hO := openSet_any (some C) cc ys wr hS.ints (by rw [HL.out]; exact h7)
        rw [HL.out] at hO
        go_wp2_with fail
        refine hO.mono ?_
        rintro e w5 ⟨rfl, rfl⟩
        go_wp2_with fail
        go_ret
        exact ⟨by rw [H3.out]; rfl, hb⟩

set_option maxRecDepth 100000 in
set_option maxHeartbeats 2000000 in
theorem specPaysOk_any (A : Addr) (B : Option Addr) (c d : Nat) (xs : List Int) (ls : List Pay) (w : World) (hA : IntsAt w (some A) xs) (hl : xs.length ≤ 1048576) (hB : PaysAt w B ls) (hm : ls.length ≤ 1048576) :
    Calls Tryd.prog 37 #[.slice (some A) xs.length c, .slice B ls.length d] w fun e w' => e = .returned (.bool (paysOkL xs ls)) ∧ Below w.heap.size w w' := by
  cases hI : owedOk xs with
  | false =>
    have HI := hide hI
    have HR : Hid (paysOkL xs ls = false) := hide (by unfold paysOkL; rw [hI]; rfl)
    clear hI
    go_enter Tryd.func37, Tryd.ntmps37
    go_wp2_with fail
    refine (specOwedValid_any _ _ _ _ hA hl).mono ?_
    rintro e w1 ⟨rfl, hB1⟩
    rw [HI.out]
    go_wp2_with fail
    go_ret
    exact ⟨by rw [HR.out]; rfl, hB1⟩
  | true =>
    have HI := hide hI
    have h7 := owedOk_len hI
    have HR : Hid (paysOkL xs ls = paysGo ls xs) := hide (by unfold paysOkL; rw [hI]; rfl)
    clear hI
    go_enter Tryd.func37, Tryd.ntmps37
    go_wp2_with fail
    refine (specOwedValid_any _ _ _ _ hA hl).mono ?_
    rintro e w1 ⟨rfl, hB1⟩
    rw [HI.out]
    have hsz1 := hB1.size
    have hO : IntSl (w1.alloc (.cells #[] 3)) w.heap.size (.slice (some ⟨w1.heap.size, 0, none⟩) 0 0) [] := World.ownsRow_lit w1 #[] 0 hsz1 (by unfold maxLen; omega) rfl
    have HO := hide hO
    have HA := hide ((hA.below hB1).below (w' := w1.alloc (.cells #[] 3)) (by go_grown))
    have hba : Below w.heap.size w (w1.alloc (.cells #[] 3)) := by go_grown
    clear hO
    go_wp2_with (at_builtin; refine wpList_spread_int rfl _ _ rfl w.heap.size (.slice (some ⟨w1.heap.size, 0, none⟩) 0 0) [] rfl HO.out (by simp) A xs.length c xs rfl rfl HA.out (by simp; omega) (by simp; omega) ?_; intro gg cc w2 hown hgrow)
    have hb2 : Below w.heap.size w w2 := hba.grown hgrow (by simp; omega) (by intro k hk; simp [Value.ownBlock] at hk; omega)
    simp only [List.length_nil, Nat.zero_add, List.nil_append] at hown
    have HS := hide hown
    clear hown hgrow hba HO HA hA hB1
    go_wp2_with fail
    go_loopw [6] (fun i wr => ∃ (k : Nat) (ys : List Int), k ≤ ls.length ∧ i = .int .i64 k ∧ Hid (ys.length = xs.length) ∧ Hid (paysOkL xs ls = paysGo (ls.drop k) ys) ∧ IntSl wr w.heap.size (.slice (some ⟨gg, 0, none⟩) xs.length cc) ys ∧ Below w.heap.size w wr) (fun i _ => ls.length - (intOf i).toNat)
    case atStart => exact ⟨0, xs, Nat.zero_le _, rfl, hide rfl, HR, HS.out, hb2⟩
    case round =>
      clear HS hb2
      obtain ⟨k, ys, hk, rfl, HL, HG, hS, hb⟩ := hrel
      have hsz := hb.size
      by_cases hlt : k < ls.length
      · obtain ⟨b, off, rfl, hbl, hc1, hc2, hc3⟩ := (hB.below hb) k ls[k] (List.getElem?_eq_getElem hlt)
        have HD : Hid (ls.drop k = ls[k] :: ls.drop (k + 1)) := hide (List.drop_eq_getElem_cons hlt)
        generalize ls[k] = p at *
        obtain ⟨pa, pb, pd⟩ := p
        simp only at hc1 hc2 hc3
        have hz : (0 : Int) ≤ k := by omega
        have hz2 : (k : Int) < ls.length := by omega
        cases hP : payOk ⟨pa, pb, pd⟩ xs.length with
        | false =>
          have H3 : Hid (paysOkL xs ls = false) := hide (by rw [HG.out, HD.out, paysGo, HL.out, hP]; rfl)
          cases h1 : inR pa 0 ((xs.length : Int) - 1) with
          | false =>
            have H1 := hide h1
            clear h1 hP
            go_wp2_with fail
            refine (l1In_is _ _ _ _ H1 _).mono ?_
            rintro e w3 ⟨rfl, rfl⟩
            go_wp2_with fail
            go_ret
            exact ⟨by rw [H3.out]; rfl, by go_grown⟩
          | true =>
            have H1 := hide h1
            cases h2 : inR pb 0 ((xs.length : Int) - 1) with
            | false =>
              have H2 := hide h2
              clear h1 h2 hP
              go_wp2_with fail
              refine (l1In_is _ _ _ _ H1 _).mono ?_
              rintro e w3 ⟨rfl, rfl⟩
              go_wp2_with fail
              refine (l1In_is _ _ _ _ H2 _).mono ?_
              rintro e w3 ⟨rfl, rfl⟩
              go_wp2_with fail
              go_ret
              exact ⟨by rw [H3.out]; rfl, by go_grown⟩
            | true =>
              have H2 := hide h2
              cases h3 : (pa == pb) with
              | true =>
                clear h1 h2 hP
                go_wp2_with fail
                refine (l1In_is _ _ _ _ H1 _).mono ?_
                rintro e w3 ⟨rfl, rfl⟩
                go_wp2_with fail
                refine (l1In_is _ _ _ _ H2 _).mono ?_
                rintro e w3 ⟨rfl, rfl⟩
                go_wp2_with fail
                go_ret
                exact ⟨by rw [H3.out]; rfl, by go_grown⟩
              | false =>
                have h4 : inR pd 1 9999 = false := by
                  unfold payOk at hP
                  simp only [h1, h2, Bool.true_and, bne, h3, Bool.not_false] at hP
                  exact hP
                have H4 := hide h4
                clear h1 h2 h4 hP
                go_wp2_with fail
                refine (l1In_is _ _ _ _ H1 _).mono ?_
                rintro e w3 ⟨rfl, rfl⟩
                go_wp2_with fail
                refine (l1In_is _ _ _ _ H2 _).mono ?_
                rintro e w3 ⟨rfl, rfl⟩
                go_wp2_with fail
                refine (l1In_is _ _ _ _ H4 _).mono ?_
                rintro e w3 ⟨rfl, rfl⟩
                go_wp2_with fail
                go_ret
                exact ⟨by rw [H3.out]; rfl, by go_grown⟩
        | true =>
          have H3 : Hid (paysOkL xs ls = paysGo (ls.drop (k + 1)) (carry ⟨pa, pb, pd⟩ ys)) := hide (by rw [HG.out, HD.out, paysGo, HL.out, hP]; rfl)
          obtain ⟨f, t, hf, ht, hfn, htn, htf, hd0, hd1⟩ := payOk_parts hP
          simp only at hf ht hd0 hd1
          subst hf ht
          have H1 : Hid (inR (f : Int) 0 ((xs.length : Int) - 1) = true) := hide (inR_iff.2 (by omega))
          have H2 : Hid (inR (t : Int) 0 ((xs.length : Int) - 1) = true) := hide (inR_iff.2 (by omega))
          have H4 : Hid (inR pd 1 9999 = true) := hide (inR_iff.2 (by omega))
          have h3 : ((f : Int) == (t : Int)) = false := by simp; omega
          have hyf := List.getElem?_eq_getElem (show f < ys.length by rw [HL.out]; exact hfn)
          have hyt := List.getElem?_eq_getElem (show t < ys.length by rw [HL.out]; exact htn)
          have HW := hide (carry_world (d := pd) hS hyf hyt (.cells #[.int .i64 f, .int .i64 t, .int .i64 pd] 65))
          have hcf := hS.cellAt hyf
          have hct := hS.cellAt hyt
          have hff := hS.frozenAt f
          have hft := hS.frozenAt t
          have hgl := World.ownsRow.lt hS gg rfl
          have hg0 := hgl.1
          have hg1 := hgl.2
          generalize (ys[f]'(by rw [HL.out]; exact hfn)) = x at *
          generalize (ys[t]'(by rw [HL.out]; exact htn)) = y at *
          have hz1 : (0 : Int) ≤ f := by omega
          have hz2f : (f : Int) < xs.length := by omega
          have hz3 : (0 : Int) ≤ t := by omega
          have hz4 : (t : Int) < xs.length := by omega
          have hgne : ¬ gg = wr.heap.size := by omega
          have HB4 := hide (hb.grown HW.out.2 hsz (fun k hk => by injection hk with hk; omega))
          clear hP hS hgl hyf hyt
          go_wp2_with fail
          refine (l1In_is _ _ _ _ H1 _).mono ?_
          rintro e w3 ⟨rfl, rfl⟩
          go_wp2_with fail
          refine (l1In_is _ _ _ _ H2 _).mono ?_
          rintro e w3 ⟨rfl, rfl⟩
          go_wp2_with fail
          refine (l1In_is _ _ _ _ H4 _).mono ?_
          rintro e w3 ⟨rfl, rfl⟩
          go_wp2_with fail
          refine still_tail_drew 12 (by kernel_rfl) (by kernel_rfl) ?_
          simp only [List.take_succ_cons, List.take_zero, List.drop_succ_cons, List.drop_zero]
          repeat still_step
          refine wpStill_nil ?_
          go_wp2_with fail
          refine still_tail_drew 12 (by kernel_rfl) (by kernel_rfl) ?_
          simp only [List.take_succ_cons, List.take_zero, List.drop_succ_cons, List.drop_zero]
          repeat still_step
          refine wpStill_nil ?_
          go_wp2_with fail
          go_roundw
          case rel => exact ⟨k + 1, carry ⟨f, t, pd⟩ ys, hlt, by go_num, hide (by rw [carry_len]; exact HL.out), H3, HW.out.1, HB4.out⟩
          case measure => simp [intOf]; omega
      · have HE : Hid (paysOkL xs ls = ys.all (· == 0)) := hide (by rw [HG.out, List.drop_of_length_le (by omega), paysGo])
        have hI := hS.ints
        go_wp2_with fail
        go_loopw [8] (fun i w5 => ∃ k : Nat, k ≤ xs.length ∧ i = .int .i64 k ∧ Hid (ys.all (· == 0) = (ys.drop k).all (· == 0)) ∧ w5 = wr) (fun i _ => xs.length - (intOf i).toNat)
        case atStart => exact ⟨0, Nat.zero_le _, rfl, hide rfl, rfl⟩
        case round =>
          obtain ⟨j, hj, rfl, HJ, rfl⟩ := hrel
          by_cases hjt : j < xs.length
          · have hjy : j < ys.length := by rw [HL.out]; exact hjt
            obtain ⟨b, off, e, hbl, hc1⟩ := hI j ys[j] (List.getElem?_eq_getElem hjy)
            injection e with e
            injection e with e1 e2
            subst e1 e2
            have HD : Hid (ys.drop j = ys[j] :: ys.drop (j + 1)) := hide (List.drop_eq_getElem_cons hjy)
            generalize ys[j] = p at *
            have hz : (0 : Int) ≤ j := by omega
            have hz2 : (j : Int) < xs.length := by omega
            rw [Nat.zero_add] at hc1
            cases hp : (p != 0) with
            | true =>
              have H3 : Hid (paysOkL xs ls = false) := hide (by rw [HE.out, HJ.out, HD.out, List.all_cons, show (p == 0) = false from (by simpa using hp)]; rfl)
              go_wp2_with fail
              go_ret
              exact ⟨by rw [H3.out]; rfl, hb⟩
            | false =>
              have H3 : Hid (ys.all (· == 0) = (ys.drop (j + 1)).all (· == 0)) := hide (by rw [HJ.out, HD.out, List.all_cons, show (p == 0) = true from (by simpa using hp)]; rfl)
              go_wp2_with fail
              go_roundw
              case rel => exact ⟨j + 1, hjt, by go_num, H3, trivial⟩
              case measure => simp [intOf]; omega
          · have H3 : Hid (paysOkL xs ls = true) := hide (by rw [HE.out, HJ.out, List.drop_of_length_le (by rw [HL.out]; omega)]; rfl)
            go_wp2_with fail
            go_ret
            exact ⟨by rw [H3.out]; rfl, hb⟩
end Go.Proofs.YtgagfaajilbmmaaDoor
