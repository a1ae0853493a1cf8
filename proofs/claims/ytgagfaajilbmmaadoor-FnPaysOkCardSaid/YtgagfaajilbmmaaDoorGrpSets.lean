/- GrpSets: sets of at most seven people as numbers: contracts of isWithin, inSet, l1Join, l1Meet; what is owed in a set.
   Conditions: sets are below 128. -/
import Derived.Test.YtgagfaajilbmmaaDoorGrpMath
import Derived.Test.YtgagfaajilbmmaaDoorFast
import Derived.Test.YtgagfaajilbmmaaDoorZeros
import Derived.Laws.BitsLemmas
import Derived.Deep.QuietTactic
import Derived.BigQuiet
namespace Go.Proofs.YtgagfaajilbmmaaDoor
open Go.RowKit Go.ChangeShapes Go.WideShapes Go.ChangeAt Go.Deep

theorem or_half (a b : Nat) : (a ||| b) / 2 = a / 2 ||| b / 2 := by
  have := Nat.or_div_two_pow (n := 1) (a := a) (b := b)
  simpa using this
theorem or_odd (a b : Nat) : (a ||| b) % 2 = a % 2 ||| b % 2 := by
  have := Nat.or_mod_two_pow (n := 1) (a := a) (b := b)
  simpa using this
theorem or_add_and : ∀ (n a b : Nat), a ≤ n → (a ||| b) + (a &&& b) = a + b := by
  intro n
  induction n using Nat.strongRecOn with
  | _ n ih =>
    intro a b hn
    rcases Nat.eq_zero_or_pos a with rfl | ha
    · simp
    · have h1 := ih (a / 2) (by omega) (a / 2) (b / 2) (Nat.le_refl _)
      have h2 := or_half a b
      have h3 := or_odd a b
      have h4 := and_half a b
      have h5 := and_odd a b
      have e1 : a % 2 = 0 ∨ a % 2 = 1 := by omega
      have e2 : b % 2 = 0 ∨ b % 2 = 1 := by omega
      have h6 : (a % 2 ||| b % 2) + (a % 2 &&& b % 2) = a % 2 + b % 2 := by
        rcases e1 with e1 | e1 <;> rcases e2 with e2 | e2 <;> rw [e1, e2] <;> rfl
      rw [← h2, ← h4] at h1
      rw [← h3, ← h5] at h6
      omega
theorem and_n {a b : Nat} (ha : a < 128) (hb : b < 128) : bits .and .i64 (a : Int) (b : Int) = ((a &&& b : Nat) : Int) :=
  (bits_nat .i64 63 (by decide) (fun n h0 h1 => by rw [IntKind.wrap_i64]; omega) a b (by omega) (by omega)).1
theorem andNot_n_all : ∀ x y : Fin 128, bits .andNot .i64 (x.val : Int) (y.val : Int) = ((x.val - (x.val &&& y.val) : Nat) : Int) := by decide +kernel
theorem andNot_n {a b : Nat} (ha : a < 128) (hb : b < 128) : bits .andNot .i64 (a : Int) (b : Int) = ((a - (a &&& b) : Nat) : Int) := andNot_n_all ⟨a, ha⟩ ⟨b, hb⟩
theorem odd_n {x : Nat} (hx : x < 128) : bits .and .i64 (x : Int) 1 = ((x % 2 : Nat) : Int) := by
  have := bits_mask .i64 63 (by decide) (fun n h0 h1 => by rw [IntKind.wrap_i64]; omega) 1 (by decide) (x : Int) (by omega) (by omega)
  simpa using this

set_option maxHeartbeats 400000 in
theorem isWithin_n (p s : Nat) (w : World) (hp : p < 128) (hs : s < 128) (b : Bool) (hb : Hid (decide (p &&& s = p) = b)) :
    Calls Tryd.prog 115 #[.int .i64 p, .int .i64 s] w fun e w' => e = .returned (.bool b) ∧ w = w' := by
  have hw := andNot_n hp hs
  have hle : p &&& s ≤ p := Nat.and_le_left
  have HB : Hid ((((p - (p &&& s) : Nat) : Int) == 0) = b) := hide (by
    rw [← hb.out, Bool.eq_iff_iff, beq_iff_eq, decide_eq_true_iff]
    omega)
  generalize ((p - (p &&& s) : Nat) : Int) = d at *
  clear hle
  go_enter Tryd.func115, Tryd.ntmps115
  go_wp2_with fail
  go_ret
  exact ⟨by rw [← HB.out]; rfl, rfl⟩

set_option maxHeartbeats 400000 in
theorem inSet_n (s k : Nat) (w : World) (hs : s < 128) (hk : k < 64) (b : Bool) (hb : Hid (decide (s / 2 ^ k % 2 = 1) = b)) :
    Calls Tryd.prog 119 #[.int .i64 s, .int .i64 k] w fun e w' => e = .returned (.bool b) ∧ w = w' := by
  have e : ((s : Int) / 2 ^ k) = ((s / 2 ^ k : Nat) : Int) := by simp
  have hd : s / 2 ^ k < 128 := Nat.lt_of_le_of_lt (Nat.div_le_self _ _) hs
  have HA : Hid ((bits .and .i64 ((s : Int) / 2 ^ k) 1 == 1) = b) := hide (by
    rw [e, odd_n hd, ← hb.out, Bool.eq_iff_iff, beq_iff_eq, decide_eq_true_iff]
    omega)
  clear e hd
  have hz : (0 : Int) ≤ k := by omega
  go_enter Tryd.func119, Tryd.ntmps119
  go_wp2_with fail
  go_ret
  exact ⟨by rw [← HA.out]; rfl, rfl⟩

set_option maxHeartbeats 1000000 in
theorem l1Join_n (a b : Nat) (w : World) (ha : a < 128) (hb : b < 128) :
    Calls Tryd.prog 128 #[.int .i64 a, .int .i64 b] w fun e w' => e = .returned (.int .i64 ((a ||| b : Nat) : Int)) ∧ w = w' := by
  have h0 : (0 : Int) ≤ a := by omega
  have h2 : (0 : Int) ≤ b := by omega
  have HOR : Hid (orI (a : Int) (b : Int) = ((a ||| b : Nat) : Int)) := hide (by unfold orI; simp)
  generalize ((a ||| b : Nat) : Int) = R at *
  obtain ⟨A, hA⟩ : ∃ A : Int, (a : Int) = A := ⟨_, rfl⟩
  obtain ⟨B, hB⟩ : ∃ B : Int, (b : Int) = B := ⟨_, rfl⟩
  have ha' : A < 128 := by omega
  have hb' : B < 128 := by omega
  rw [hA, hB] at HOR ⊢
  rw [hA] at h0
  rw [hB] at h2
  clear hA hB ha hb
  go_enter Tryd.func128, Tryd.ntmps128
  go_wp2_with fail
  go_loopw [5, 6] (fun o i wr => ∃ out bit : Int, 1 ≤ bit ∧ bit ≤ 256 ∧ 0 ≤ out ∧ out ≤ 256 ∧ o = .int .i64 out ∧ i = .int .i64 bit ∧ Hid (JoinTo A B out bit) ∧ wr = w) (fun _ i _ => (256 - intOf i).toNat)
  case atStart => exact ⟨0, 1, by omega, by omega, by omega, by omega, rfl, rfl, hide ⟨0, rfl, by simp [Nat.mod_one]⟩, rfl⟩
  case round =>
    obtain ⟨out, bit, hb0, hb1, ho0, ho1, rfl, rfl, HJ, rfl⟩ := hrel
    have hda : 0 ≤ A / bit := Int.ediv_nonneg h0 (by omega)
    have hdb : 0 ≤ B / bit := Int.ediv_nonneg h2 (by omega)
    have hJ := hide (HJ.out.step h0 h2)
    have hob := HJ.out.lt
    by_cases hm : bit ≤ (if A < B then B else A)
    · have hm' : bit < 128 := by split at hm <;> omega
      by_cases e1 : A / bit % 2 = 1
      · have f1 : (A / bit % 2 == 1) = true := by simp [e1]
        have HS : Hid (JoinTo A B (out + bit) (2 * bit)) := hide (by have := hJ.out; rwa [if_pos (.inl e1)] at this)
        clear e1
        go_wp2_with fail
        all_goals (refine ⟨⟨_, _, by omega, by omega, by omega, ?_, rfl, rfl, HS, trivial⟩, by simp [intOf]; omega⟩)
        all_goals omega
      · have f1 : (A / bit % 2 == 1) = false := by simp [e1]
        by_cases e2 : B / bit % 2 = 1
        · have f2 : (B / bit % 2 == 1) = true := by simp [e2]
          have HS : Hid (JoinTo A B (out + bit) (2 * bit)) := hide (by have := hJ.out; rwa [if_pos (.inr e2)] at this)
          clear e1 e2
          go_wp2_with fail
          all_goals (refine ⟨⟨_, _, by omega, by omega, by omega, ?_, rfl, rfl, HS, trivial⟩, by simp [intOf]; omega⟩)
          all_goals omega
        · have f2 : (B / bit % 2 == 1) = false := by simp [e2]
          have HS : Hid (JoinTo A B out (2 * bit)) := hide (by have := hJ.out; rwa [if_neg (not_or.2 ⟨e1, e2⟩)] at this)
          clear e1 e2
          go_wp2_with fail
          all_goals (refine ⟨⟨_, _, by omega, by omega, by omega, ?_, rfl, rfl, HS, trivial⟩, by simp [intOf]; omega⟩)
          all_goals omega
    · have HE : Hid (R = out) := hide (by rw [← HOR.out]; exact (HJ.out.done h0 h2 (by split at hm <;> omega) (by split at hm <;> omega)).symm)
      go_wp2_with fail
      all_goals go_ret
      all_goals exact ⟨by rw [HE.out]; rfl, rfl⟩

theorem l1Meet_n (a b : Nat) (w : World) (ha : a < 128) (hb : b < 128) :
    Calls Tryd.prog 118 #[.int .i64 a, .int .i64 b] w fun e w' => e = .returned (.int .i64 ((a &&& b : Nat) : Int)) ∧ w = w' := by
  have hs := or_add_and a a b (Nat.le_refl _)
  have HE : Hid ((a : Int) + (b : Int) - ((a ||| b : Nat) : Int) = ((a &&& b : Nat) : Int)) := hide (by omega)
  have HC := hide (fun W => l1Join_n a b W ha hb)
  have ho : (a ||| b) ≤ 256 := by omega
  generalize (a ||| b) = o at *
  generalize ((a &&& b : Nat) : Int) = r at *
  clear hs
  go_enter Tryd.func118, Tryd.ntmps118
  go_wp2_with fail
  refine (HC.out _).mono ?_
  rintro e w' ⟨rfl, rfl⟩
  go_wp2_with fail
  go_ret
  exact ⟨by rw [← HE.out]; rfl, rfl⟩

theorem openGo_set : ∀ (xs : List Int) (k : Nat), openGo k xs = 2 ^ k * (gSet xs : Int)
  | [], k => by simp [openGo, gSet]
  | x :: r, k => by
    have ih := openGo_set r (k + 1)
    rw [openGo, gSet, ih, Int.pow_succ]
    by_cases hx : (x != 0) = true
    · rw [if_pos hx, if_pos hx, Int.mul_assoc]
      rw [show (((1 + 2 * gSet r : Nat) : Int)) = 1 + 2 * (gSet r : Int) from by omega, Int.mul_add]
      omega
    · rw [if_neg hx, if_neg hx, Int.mul_assoc]
      rw [show (((0 + 2 * gSet r : Nat) : Int)) = 2 * (gSet r : Int) from by omega]
      omega
theorem openS_set (xs : List Int) : openS xs = (gSet xs : Int) := by
  unfold openS
  rw [openGo_set]
  omega
theorem gSet_128 {xs : List Int} (h : xs.length ≤ 7) : gSet xs < 128 := by
  have a := gSet_lt xs
  have b : (2 : Nat) ^ xs.length ≤ 2 ^ 7 := Nat.pow_le_pow_right (by omega) h
  have : (2 : Nat) ^ 7 = 128 := rfl
  omega
theorem gPart_at : ∀ (xs : List Int) (s k : Nat), (gPart xs s).getD k 0 = if s / 2 ^ k % 2 = 1 then xs.getD k 0 else 0
  | [], s, k => by simp [gPart]
  | x :: r, s, 0 => by simp [gPart]
  | x :: r, s, k + 1 => by
    rw [gPart]
    simp only [List.getD_cons_succ]
    rw [gPart_at r (s / 2) k, Nat.div_div_eq_div_mul, Nat.pow_succ, Nat.mul_comm 2]
theorem gPart_rng {xs : List Int} {s : Nat} (h : ∀ y ∈ xs, -9999 ≤ y ∧ y ≤ 9999) : ∀ y ∈ gPart xs s, -9999 ≤ y ∧ y ≤ 9999 := by
  intro y hy
  rcases gPart_mem xs s y hy with rfl | e
  · omega
  · exact h y e
theorem sumW_part {xs : List Int} {s : Nat} (h : ∀ y ∈ xs, -9999 ≤ y ∧ y ≤ 9999) (hl : xs.length ≤ 7) : sumW (gPart xs s) = sumL (gSub xs s) := by
  unfold sumW
  rw [sumGo_plain _ 0 (-9999) 9999 (gPart_rng h) (by omega) (by omega) (by rw [gPart_len]; omega) (by rw [gPart_len]; omega), gPart_sum]
  omega

/-- What is owed in a set, up to an index. -/
def partTo (xs : List Int) (s k : Nat) : List Int := tab xs.length (fun j => if j < k then (gPart xs s).getD j 0 else 0)
theorem partTo_len (xs : List Int) (s k : Nat) : (partTo xs s k).length = xs.length := tab_len _ _
theorem partTo_zero (xs : List Int) (s : Nat) : partTo xs s 0 = tab xs.length (fun _ => 0) := by unfold partTo; exact tab_congr (fun j _ => by simp)
theorem partTo_set {xs : List Int} {s k : Nat} (h : s / 2 ^ k % 2 = 1) : (partTo xs s k).set k (xs.getD k 0) = partTo xs s (k + 1) := by
  unfold partTo
  rw [tab_set]
  refine tab_congr (fun j _ => ?_)
  by_cases e : j = k
  · subst e
    rw [if_pos rfl, if_pos (by omega), gPart_at, if_pos h]
  · rw [if_neg e]
    by_cases e2 : j < k
    · rw [if_pos e2, if_pos (by omega)]
    · rw [if_neg e2, if_neg (by omega)]
theorem partTo_skip {xs : List Int} {s k : Nat} (h : ¬ s / 2 ^ k % 2 = 1) : partTo xs s k = partTo xs s (k + 1) := by
  unfold partTo
  refine tab_congr (fun j _ => ?_)
  by_cases e : j = k
  · subst e
    rw [if_neg (by omega), if_pos (by omega), gPart_at, if_neg h]
  · by_cases e2 : j < k
    · rw [if_pos e2, if_pos (by omega)]
    · rw [if_neg e2, if_neg (by omega)]
theorem partTo_all (xs : List Int) (s : Nat) : partTo xs s xs.length = gPart xs s := by
  apply List.ext_getElem?
  intro i
  by_cases hi : i < xs.length
  · unfold partTo
    rw [tab_at hi, if_pos hi]
    simp [gPart_len, hi]
  · rw [List.getElem?_eq_none (by rw [partTo_len]; omega), List.getElem?_eq_none (by rw [gPart_len]; omega)]

set_option maxRecDepth 100000 in
set_option maxHeartbeats 2000000 in
theorem owedIn_any (A : Option Addr) (c : Nat) (xs : List Int) (s : Nat) (w : World) (hA : IntsAt w A xs) (hl : xs.length ≤ 7) (hs : s < 128) :
    Calls Tryd.prog 92 #[.slice A xs.length c, .int .i64 s] w fun e w' => ∃ g, e = .returned (.slice (some ⟨g, 0, none⟩) xs.length xs.length) ∧ IntSl w' w.heap.size (.slice (some ⟨g, 0, none⟩) xs.length xs.length) (gPart xs s) ∧ Below w.heap.size w w' := by
  have hmk := make_ints xs.length (by omega)
  have HZ0 := hide (fun (W : World) => zeros_tabG W (lo := W.heap.size) xs.length (Nat.le_refl _) (by omega))
  obtain ⟨n, hn⟩ : ∃ n : Nat, xs.length = n := ⟨_, rfl⟩
  have HN := hide hn
  rw [hn] at hmk HZ0 ⊢
  have hl7 : n ≤ 7 := by omega
  clear hn hl
  go_enter Tryd.func92, Tryd.ntmps92
  go_wp2_with fail
  clear hmk
  have HS0 := hide (HZ0.out w)
  go_loopw [13] (fun i wr => ∃ (k : Nat), k ≤ n ∧ i = .int .i64 k ∧ IntSl wr w.heap.size (.slice (some ⟨w.heap.size, 0, none⟩) n n) (partTo xs s k) ∧ w.heap.size < wr.heap.size ∧ Below w.heap.size w wr) (fun i _ => n - (intOf i).toNat)
  case atStart => exact ⟨0, Nat.zero_le _, rfl, by rw [partTo_zero, HN.out]; exact HS0.out, by simp, by go_grown⟩
  case round =>
    clear HS0 HZ0
    obtain ⟨k, hk, rfl, hS, hlt0, hb⟩ := hrel
    have hsz := hb.size
    by_cases hlt : k < n
    · have hkx : k < xs.length := by rw [HN.out]; exact hlt
      obtain ⟨b, off, rfl, hbl, hc1⟩ := (hA.below hb) k xs[k] (List.getElem?_eq_getElem hkx)
      have HX : Hid (xs.getD k 0 = xs[k]) := hide (by simp [hkx])
      generalize xs[k] = x at *
      have hz : (0 : Int) ≤ k := by omega
      have hz2 : (k : Int) < n := by omega
      by_cases hh : s / 2 ^ k % 2 = 1
      · have HC := hide (fun W => inSet_n s k W hs (by omega) true (hide (decide_eq_true hh)))
        have hfz := hS.frozenAt k
        have hck : ∃ v, wr.cell? ⟨w.heap.size, k, none⟩ = some v := ⟨_, hS.cellAt (List.getElem?_eq_getElem (by rw [partTo_len]; exact hkx))⟩
        obtain ⟨v0, hck⟩ := hck
        have HN1 : Hid (IntSl (wr.setCell ⟨w.heap.size, k, none⟩ (.int .i64 x)) w.heap.size (.slice (some ⟨w.heap.size, 0, none⟩) n n) (partTo xs s (k + 1))) := hide (by
          have := IntSl.store hS k x
          rw [← HX.out, partTo_set hh] at this
          rw [← HX.out]
          exact this)
        have HB1 := hide (hb.grown (IntSl.grownSet hS k x) hsz (fun k hk => by injection hk with hk; omega))
        clear hS hkx
        go_wp2_with fail
        refine (HC.out _).mono ?_
        rintro e w3 ⟨rfl, rfl⟩
        go_wp2_with fail
        go_roundw
        case rel => exact ⟨k + 1, hlt, by go_num, HN1.out, by simp; exact hlt0, HB1.out⟩
        case measure => simp [intOf]; omega
      · have HC := hide (fun W => inSet_n s k W hs (by omega) false (hide (decide_eq_false hh)))
        rw [partTo_skip hh] at hS
        have HS := hide hS
        clear hS hkx
        go_wp2_with fail
        refine (HC.out _).mono ?_
        rintro e w3 ⟨rfl, rfl⟩
        go_wp2_with fail
        go_roundw
        case rel => exact ⟨k + 1, hlt, by go_num, HS.out, hlt0, hb⟩
        case measure => simp [intOf]; omega
    · obtain rfl : k = n := by omega
      have HS : Hid (IntSl wr w.heap.size (.slice (some ⟨w.heap.size, 0, none⟩) k k) (gPart xs s)) := hide (by
        have := partTo_all xs s
        rw [HN.out] at this
        rw [← this]
        exact hS)
      clear hS
      go_wp2_with fail
      exact bodyPost_ret (results_tmp rfl _ _ _) rfl ⟨_, rfl, HS.out, hb⟩
end Go.Proofs.YtgagfaajilbmmaaDoor
