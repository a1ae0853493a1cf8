/- For all drawn bytes the law of UsesOf answers true, and its argument reads as it did; the card: the listed tables are tied to the program's text.
   Conditions: none. -/
import Derived.Test.YtigclhjkjhkbjaaDoorLawKit
import Derived.Test.YtigclhjkjhkbjaaDoorUsesMath
import Derived.Test.YtigclhjkjhkbjaaDoorMarks
namespace Go.Proofs.YtigclhjkjhkbjaaDoor
open Go.RowKit Go.ChangeShapes Go.WideShapes Go.ChangeAt

theorem hasB_test (s : Int) (k : Nat) : (s / 2 ^ k % 2 == 1) = hasB s k := rfl
theorem hasB_zero {s : Int} {k : Nat} (h : hasB s k = true) : (s / 2 ^ k % 2 == 0) = false := by
  unfold hasB at h
  simp only [beq_iff_eq] at h
  rw [h]; rfl

set_option maxRecDepth 100000 in
set_option maxHeartbeats 2000000 in
theorem lawUsesOf_any (A : Option Addr) (c m : Nat) (w : World) (hB : BytesIn w A m) (hc : m ≤ c) (hc2 : c ≤ 9223372036854775807) :
    Calls Tryd.prog 6 #[.slice A m c] w fun e w' => e = .returned (.bool true) ∧ Below w.heap.size w w' := by
  by_cases hlen : (1048576 : Int) < m
  · go_enter Tryd.func6, Tryd.ntmps6
    go_wp2_with fail
    go_ret
    exact ⟨rfl, by go_grown⟩
  · go_enter Tryd.func6, Tryd.ntmps6
    go_wp2_with fail
    refine (drawUsesOf_any A c m w hB (by omega) hc hc2).mono ?_
    rintro e w1 ⟨l, A1, c1, n, rfl, hI, hl, hp, hn0, hn1, hb1⟩
    have hl' : l.length ≤ 1048576 := by omega
    have HP : Hid (∀ x ∈ l, x.parts.length ≤ 1048576) := hide (fun x hx => by have := hp x hx; omega)
    obtain ⟨U, HU⟩ : ∃ U, Hid (usesL l n = U) := ⟨_, hide rfl⟩
    have hne : (U != U) = false := by simp
    clear hp
    go_wp2_with fail
    refine (implUsesOf_any _ _ _ _ _ hI hl' HP.out).mono ?_
    rintro e w2 ⟨rfl, hB2⟩
    rw [HU.out]
    have hb2 := next hb1 hB2
    go_wp2_with fail
    refine (specUsesOf_any _ _ _ _ _ (hI.below hB2) hl' HP.out).mono ?_
    rintro e w3 ⟨rfl, hB3⟩
    rw [HU.out]
    have hb3 := next hb2 hB3
    have hI3 := (hI.below hB2).below hB3
    clear hI hB2 hB3
    by_cases hU : U < 0
    · have hU1 : U = -1 := by
        rw [← HU.out] at hU ⊢
        unfold usesL at hU ⊢
        split
        · rename_i hc
          rw [if_pos hc] at hU
          have := usesGo_nn l (n.toNat + 1) (2 ^ n.toNat) (Int.pow_nonneg (by omega))
          omega
        · rfl
      subst hU1
      go_wp2_with fail
      refine (alive_any _).mono ?_
      rintro e w4 ⟨rfl, hB4⟩
      go_wp2_with fail
      go_ret
      exact ⟨rfl, next hb3 hB4⟩
    · obtain ⟨hok, hnn, hnl⟩ := usesL_parts (l := l) (n := n) (by rw [HU.out]; exact hU)
      obtain ⟨N, rfl⟩ : ∃ N : Nat, n = N := ⟨n.toNat, by omega⟩
      have HOK := hide hok
      have hNl : N < l.length := by omega
      have hl6 := itemsOk_len hok
      have hUr : U < 64 := by rw [← HU.out]; exact (usesL_range (l := l) (index := (N : Int)) (by rw [HU.out]; exact hU)).2
      have hUz : 0 ≤ U := by omega
      clear hok
      go_wp2_with fail
      go_loopw [6] (fun i wr => ∃ k : Nat, k ≤ l.length ∧ i = .int .i64 k ∧ Below w3.heap.size w3 wr) (fun i _ => l.length - (intOf i).toNat)
      case atStart => exact ⟨0, Nat.zero_le _, rfl, Below.refl _ _⟩
      case round =>
        obtain ⟨k, hk, rfl, hbr⟩ := hrel
        have hsz := hbr.size
        by_cases hlt : k < l.length
        · have hz : (0 : Int) ≤ k := by omega
          have hz2 : (k : Int) < l.length := by omega
          obtain ⟨V, HV⟩ : ∃ V, Hid (usesL l (k : Int) = V) := ⟨_, hide rfl⟩
          have hV := usesL_range (l := l) (index := (k : Int)) (by rw [usesL_eq HOK.out hlt]; have := usesGo_nn l (k + 1) (2 ^ k) (Int.pow_nonneg (by omega)); omega)
          rw [HV.out] at hV
          obtain ⟨hV0, hV1⟩ := hV
          go_wp2_with fail
          refine (implUsesOf_any _ _ _ _ _ (hI3.below hbr) hl' HP.out).mono ?_
          rintro e w4 ⟨rfl, hB4⟩
          rw [HV.out]
          have hb4 : Below w3.heap.size w3 w4 := next hbr hB4
          clear hB4 hsz
          go_wp2_with fail
          go_loopw [8] (fun i wr => ∃ j : Nat, j ≤ l.length ∧ i = .int .i64 j ∧ wr = w4) (fun i _ => l.length - (intOf i).toNat)
          case atStart => exact ⟨0, Nat.zero_le _, rfl, rfl⟩
          case round =>
            obtain ⟨j, hj, rfl, rfl⟩ := hrel
            by_cases hjl : j < l.length
            · have hjz : (0 : Int) ≤ j := by omega
              have hjz2 : (j : Int) < l.length := by omega
              have g1 := (div_range U k hUz hUr).1
              have g2 := (div_range U j hUz hUr).1
              have g3 := (div_range V j hV0 hV1).1
              cases hUk : hasB U k with
              | false =>
                have h1 : (U / 2 ^ k % 2 == 1) = false := hUk
                clear hUk
                by_cases hkN : (N : Int) < k
                · have h2 : decide ((N : Int) < k) = true := decide_eq_true hkN
                  have h2' : decide (N < k) = true := decide_eq_true (by omega)
                  clear hkN
                  go_wp2_with fail
                  go_roundw
                  case rel => exact ⟨j + 1, hjl, by go_num, trivial⟩
                  case measure => simp [intOf]; omega
                · have h2 : ¬ N < k := by omega
                  clear hkN
                  go_wp2_with fail
                  go_roundw
                  case rel => exact ⟨j + 1, hjl, by go_num, trivial⟩
                  case measure => simp [intOf]; omega
              | true =>
                have h1 : (U / 2 ^ k % 2 == 1) = true := hUk
                have hkN : ¬ (N : Int) < k := fun h => by
                  have := uses_above HOK.out hNl (show N < k by omega)
                  rw [HU.out, hUk] at this
                  cases this
                have h2 : ¬ N < k := by omega
                cases hVj : hasB V j with
                | false =>
                  have h3 : (V / 2 ^ j % 2 == 1) = false := hVj
                  clear hUk hVj hkN
                  go_wp2_with fail
                  go_roundw
                  case rel => exact ⟨j + 1, hjl, by go_num, trivial⟩
                  case measure => simp [intOf]; omega
                | true =>
                  have h3 : (V / 2 ^ j % 2 == 1) = true := hVj
                  have h4 : (U / 2 ^ j % 2 == 0) = false := hasB_zero (by
                    have := uses_trans HOK.out hNl hlt (by rw [HU.out]; exact hUk) (by rw [HV.out]; exact hVj)
                    rwa [HU.out] at this)
                  clear hUk hVj hkN
                  go_wp2_with fail
                  go_roundw
                  case rel => exact ⟨j + 1, hjl, by go_num, trivial⟩
                  case measure => simp [intOf]; omega
            · go_wp2_with fail
              go_roundw
              case rel => exact ⟨k + 1, hlt, by go_num, hb4⟩
              case measure => simp [intOf]; omega
        · have h1 : (U / 2 ^ N % 2 == 1) = true := by
            have := uses_has HOK.out hNl
            rw [HU.out] at this
            exact this
          have g1 := (div_range U N hUz hUr).1
          go_wp2_with fail
          go_ret
          exact ⟨rfl, next hb3 hbr⟩
end Go.Proofs.YtigclhjkjhkbjaaDoor
