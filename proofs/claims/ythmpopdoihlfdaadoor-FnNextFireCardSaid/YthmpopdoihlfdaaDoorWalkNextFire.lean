/- For all drawn bytes the law of NextFire answers true, and its argument reads as it did.
   Conditions: the two tables hold what the source says. -/
import Derived.Test.YthmpopdoihlfdaaDoorDrawKitK
import Derived.Test.YthmpopdoihlfdaaDoorAlive
import Derived.Test.YthmpopdoihlfdaaDoorTick6
import Derived.Test.YthmpopdoihlfdaaDoorTickMath2
namespace Go.Proofs.YthmpopdoihlfdaaDoor
open Go.RowKit Go.ChangeShapes Go.WideShapes Go.ChangeAt Go.Deep

theorem nextGo_first : ∀ (l : List (List Order)) (k0 : Nat), nextGo k0 l = (-1, -1) ∨ ∃ (a : Nat) (i : Int) (m : List Int), nextGo k0 l = (((k0 + a : Nat) : Int), i) ∧ a < l.length ∧ mayL (l.getD a []) = i :: m ∧ ∀ j, j < a → mayL (l.getD j []) = []
  | [], _ => .inl rfl
  | t :: r, k0 => by
    cases h : mayL t with
    | nil =>
      rw [nextGo_nil h]
      rcases nextGo_first r (k0 + 1) with e | ⟨a, i, m, e, ha, hm, hj⟩
      · exact .inl e
      · refine .inr ⟨a + 1, i, m, by rw [e, show k0 + 1 + a = k0 + (a + 1) from by omega], by simpa using ha, by simpa using hm, fun j hja => ?_⟩
        cases j with
        | zero => simpa using h
        | succ j => simpa using hj j (by omega)
    | cons i m =>
      rw [nextGo_cons h]
      exact .inr ⟨0, i, m, by simp, by simp, by simpa using h, fun j hj => absurd hj (by omega)⟩
theorem nextFire_first (l : List (List Order)) : nextFireL l = (-1, -1) ∨ ∃ (a : Nat) (i : Int) (m : List Int), nextFireL l = ((a : Int), i) ∧ a < l.length ∧ mayL (l.getD a []) = i :: m ∧ ∀ j, j < a → mayL (l.getD j []) = [] := by
  unfold nextFireL
  split
  · have := nextGo_first l 0
    simpa using this
  · exact .inl rfl
theorem rowD {l : List (List Order)} {k : Nat} (h : k < l.length) : l[k]? = some (l.getD k []) := by rw [List.getD_eq_getElem?_getD, List.getElem?_eq_getElem h]; rfl

set_option maxRecDepth 100000 in
set_option maxHeartbeats 4000000 in
theorem lawNextFire_any (A : Option Addr) (c m : Nat) (w : World) (hB : BytesIn w A m) (hc : m ≤ c) (hc2 : c ≤ 9223372036854775807) (hTP : PiecesAt w) (hTN : NextAt w) :
    Calls Tryd.prog 10 #[.slice A m c] w fun e w' => e = .returned (.bool true) ∧ Below w.heap.size w w' := by
  by_cases hlen : (1048576 : Int) < m
  · go_enter Tryd.func10, Tryd.ntmps10
    go_wp2_with fail
    go_ret
    exact ⟨rfl, by go_grown⟩
  · go_enter Tryd.func10, Tryd.ntmps10
    go_wp2_with fail
    refine (drawNextFire_any A c m w hB (by omega) hc hc2).mono ?_
    rintro e w1 ⟨l, G, d, rfl, hS, h5, hx7, hb1⟩
    have HT1 := hide hS.rows
    have hll : l.length ≤ 1048576 := by omega
    have HX : Hid (∀ x ∈ l, x.length ≤ 1048576) := hide (fun x hx => by have := hx7 x hx; omega)
    clear hS hx7
    have HTP1 := hide (hTP.below hb1)
    have HTN1 := hide (hTN.below hb1)
    go_wp2_with fail
    refine (implNextFire_any _ _ _ _ HT1.out hll HX.out HTP1.out HTN1.out).mono ?_
    rintro e w2 ⟨rfl, hB2⟩
    have hb2 := next hb1 hB2
    have HT2 := hide (HT1.out.below hB2)
    rcases nextFire_first l with hq | ⟨a, i, mm, hq, ha, hm, hj⟩
    · have HQ := hide hq
      clear hq hB2 HT1
      rw [HQ.out]
      go_wp2_with fail
      refine (specNextFire_any _ _ _ _ HT2.out hll HX.out).mono ?_
      rintro e w3 ⟨rfl, hB3⟩
      rw [HQ.out]
      have hb3 := next hb2 hB3
      go_wp2_with fail
      refine (alive_any _).mono ?_
      rintro e w4 ⟨rfl, hB4⟩
      have hb4 := next hb3 hB4
      go_wp2_with fail
      go_ret
      exact ⟨rfl, hb4⟩
    · have HQ := hide hq
      have HM := hide hm
      have HJ := hide hj
      clear hq hB2 HT1 hm hj
      rw [HQ.out]
      have hii : (i != i) = false := by simp
      have haa : ((a : Int) != (a : Int)) = false := by simp
      have han : ¬ (a : Int) < 0 := by omega
      go_wp2_with fail
      refine (specNextFire_any _ _ _ _ HT2.out hll HX.out).mono ?_
      rintro e w3 ⟨rfl, hB3⟩
      rw [HQ.out]
      have hb3 := next hb2 hB3
      have HT3 := hide (HT2.out.below hB3)
      clear hB3 HT2
      go_wp2_with fail
      go_loopw [8] (fun iv wr => ∃ k : Nat, k ≤ a + 1 ∧ iv = .int .i64 k ∧ Below w3.heap.size w3 wr) (fun iv _ => a + 1 - (intOf iv).toNat)
      case atStart => exact ⟨0, Nat.zero_le _, rfl, Below.refl _ _⟩
      case round =>
        obtain ⟨k, hk, rfl, hd⟩ := hrel
        have hb := next hb3 hd
        have hsz := hd.size
        by_cases hlt : k ≤ a
        · obtain ⟨b, off, A', c', hA', hbl, hc1, hI⟩ := (HT3.out.below hd) k _ (rowD (by omega))
          injection hA' with hA'
          injection hA' with e1 e2
          subst e1 e2
          rw [Nat.zero_add] at hc1
          have hxl : (l.getD k []).length ≤ 1048576 := HX.out _ (List.mem_of_getElem? (rowD (by omega)))
          have HTP4 := hide (hTP.below hb)
          have HTN4 := hide (hTN.below hb)
          have hz : (0 : Int) ≤ k := by omega
          have hz2 : (k : Int) < l.length := by omega
          have hz3 : (k : Int) ≤ a := by omega
          by_cases hka : k < a
          · have hm0 := HJ.out k hka
            generalize l.getD k [] = x at *
            have hkd : decide ((k : Int) < a) = true := decide_eq_true (by omega)
            have hke : ((k : Int) == (a : Int)) = false := beq_false_of_ne (by omega)
            go_wp2_with fail
            refine (implTicketMay_any _ _ _ _ hI hxl HTP4.out HTN4.out).mono ?_
            rintro e w5 ⟨u, rfl, hU, hB5⟩
            rw [hm0] at hU
            obtain ⟨A5, c5, rfl, -⟩ := IntSl.form hU
            have hd5 := next hd hB5
            simp only [List.length_nil]
            clear hU hm0
            go_wp2_with fail
            go_roundw
            case rel => exact ⟨k + 1, by omega, by go_num, hd5⟩
            case measure => simp [intOf]; omega
          · obtain rfl : k = a := by omega
            have hm0 := HM.out
            generalize l.getD k [] = x at *
            have hkd : decide ((k : Int) < k) = false := decide_eq_false (by omega)
            have hke : ((k : Int) == (k : Int)) = true := by simp
            go_wp2_with fail
            refine (implTicketMay_any _ _ _ _ hI hxl HTP4.out HTN4.out).mono ?_
            rintro e w5 ⟨u, rfl, hU, hB5⟩
            rw [hm0] at hU
            obtain ⟨A5, c5, rfl, hN, -⟩ := IntSl.form hU
            obtain ⟨b2, off2, rfl, hbl2, hd1⟩ := hN 0 i rfl
            have hd5 := next hd hB5
            have hlen : (0 : Int) < ((i :: mm).length : Nat) := by simp
            have hlen2 : (((i :: mm).length : Int) == 0) = false := beq_false_of_ne (by omega)
            obtain ⟨nn, hnn⟩ : ∃ nn, (i :: mm).length = nn := ⟨_, rfl⟩
            rw [hnn] at hlen hlen2 ⊢
            rw [Nat.add_zero] at hd1
            clear hU hN hnn hm0
            go_wp2_with fail
            go_roundw
            case rel => exact ⟨k + 1, by omega, by go_num, hd5⟩
            case measure => simp [intOf] <;> omega
        · have hz3 : ¬ (k : Int) ≤ a := by omega
          go_wp2_with fail
          go_ret
          exact ⟨rfl, hb⟩
end Go.Proofs.YthmpopdoihlfdaaDoor
