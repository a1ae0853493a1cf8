/- For all drawn bytes the law of TicketMay answers true, and its argument reads as it did.
   Conditions: the two tables hold what the source says. -/
import Derived.Test.YthmpopdoihlfdaaDoorDrawTickK
import Derived.Test.YthmpopdoihlfdaaDoorAlive
import Derived.Test.YthmpopdoihlfdaaDoorTick3
import Derived.Test.YthmpopdoihlfdaaDoorTick5
import Derived.Test.YthmpopdoihlfdaaDoorTickMath2
import Derived.Test.YthmpopdoihlfdaaDoorLists
namespace Go.Proofs.YthmpopdoihlfdaaDoor
open Go.RowKit Go.ChangeShapes Go.WideShapes Go.ChangeAt Go.Deep

theorem hasInt_is (A : Option Addr) (c : Nat) (xs : List Int) (n : Int) (b : Bool) (H : Hid (xs.any (· == n) = b)) (w : World) (h1 : IntsAt w A xs) (hl : xs.length ≤ 1048576) :
    Calls Tryd.prog 31 #[.slice A xs.length c, .int .i64 n] w fun e w' => e = .returned (.bool b) ∧ w' = w := by
  have := hasInt_any A c xs n w h1 hl
  rwa [H.out] at this

theorem may_has {t : List Order} {k : Nat} (hk : k < t.length) : (mayL t).any (· == (k : Int)) = mayOf t k := by
  unfold mayL mayUpto
  rw [Bool.eq_iff_iff, List.any_eq_true]
  constructor
  · rintro ⟨x, hx, he⟩
    obtain ⟨n, hn, rfl⟩ := List.mem_map.1 hx
    have : n = k := by have h2 : (n : Int) = k := by simpa using he
                       omega
    subst this
    exact (List.mem_filter.1 hn).2
  · intro h
    exact ⟨k, List.mem_map.2 ⟨k, List.mem_filter.2 ⟨List.mem_range.2 hk, h⟩, rfl⟩, by simp⟩
theorem may_asc (t : List Order) : ∀ (i : Nat) (x y : Int), (mayL t)[i]? = some x → (mayL t)[i + 1]? = some y → x < y := by
  have hp : (mayL t).Pairwise (· < ·) := by
    unfold mayL mayUpto
    rw [List.pairwise_map]
    exact (List.Pairwise.filter _ List.pairwise_lt_range).imp (fun h => by omega)
  intro i x y hx hy
  obtain ⟨hi, rfl⟩ := List.getElem?_eq_some_iff.1 hx
  obtain ⟨hj, rfl⟩ := List.getElem?_eq_some_iff.1 hy
  exact List.pairwise_iff_getElem.1 hp i (i + 1) hi hj (by omega)
theorem may_bad {t : List Order} (h : ticketOkL t = false) : mayL t = [] := mayL_nil.2 (fun k _ => by
  cases hm : mayOf t k with
  | false => rfl
  | true => have := (mayOf_lt hm).1; rw [h] at this; cases this)

set_option maxRecDepth 100000 in
set_option maxHeartbeats 4000000 in
theorem lawTicketMay_any (A : Option Addr) (c m : Nat) (w : World) (hB : BytesIn w A m) (hc : m ≤ c) (hc2 : c ≤ 9223372036854775807) (hTP : PiecesAt w) (hTN : NextAt w) :
    Calls Tryd.prog 6 #[.slice A m c] w fun e w' => e = .returned (.bool true) ∧ Below w.heap.size w w' := by
  by_cases hlen : (1048576 : Int) < m
  · go_enter Tryd.func6, Tryd.ntmps6
    go_wp2_with fail
    go_ret
    exact ⟨rfl, by go_grown⟩
  · go_enter Tryd.func6, Tryd.ntmps6
    go_wp2_with fail
    refine (drawTicketMay_any A c m w hB (by omega) hc hc2).mono ?_
    rintro e w1 ⟨t, D, d, rfl, hS, h7, hb1⟩
    have HT := hide hS.orders
    have htl : t.length ≤ 1048576 := by omega
    have HTP1 := hide (hTP.below hb1)
    have HTN1 := hide (hTN.below hb1)
    obtain ⟨F, HF⟩ : ∃ F, Hid (mayL t = F) := ⟨_, hide rfl⟩
    have hFl : F.length ≤ 1048576 := by rw [← HF.out]; exact Nat.le_trans (mayUpto_len _ _) htl
    clear hS
    go_wp2_with fail
    refine (implTicketMay_any _ _ _ _ HT.out htl HTP1.out HTN1.out).mono ?_
    rintro e w2 ⟨u, rfl, hU, hB2⟩
    rw [HF.out] at hU
    obtain ⟨A2, c2, rfl, hI2, -⟩ := IntSl.form hU
    have hb2 := next hb1 hB2
    have HT2 := hide (HT.out.below hB2)
    go_wp2_with fail
    refine (specTicketMay_any _ _ _ _ HT2.out htl).mono ?_
    rintro e w3 ⟨u3, rfl, hU3, hB3⟩
    rw [HF.out] at hU3
    obtain ⟨A3, c3, rfl, hI3, -⟩ := IntSl.form hU3
    have hb3 := next hb2 hB3
    have HT3 := hide (HT2.out.below hB3)
    have HF3 := hide (hI2.below hB3)
    have HI3 := hide hI3
    clear hU hU3 hI2 hI3 hB2 hB3 HT HT2
    go_wp2_with fail
    refine (sameInts_same _ _ _ _ _ _ HF3.out HI3.out hFl).mono ?_
    rintro e w4 ⟨rfl, hB4⟩
    have hb4 := next hb3 hB4
    have HT4 := hide (HT3.out.below hB4)
    have HF4 := hide (HF3.out.below hB4)
    clear hB4 HT3 HF3 HI3
    go_wp2_with fail
    refine (specTicketValid_any _ _ _ _ HT4.out htl).mono ?_
    rintro e w5 ⟨rfl, hB5⟩
    have hb5 := next hb4 hB5
    have HT5 := hide (HT4.out.below hB5)
    have HF5 := hide (HF4.out.below hB5)
    have HTP5 := hide (hTP.below hb5)
    clear hB5 HT4 HF4
    cases hv : ticketOkL t with
    | false =>
      have hF0 : F = [] := by rw [← HF.out]; exact may_bad hv
      subst hF0
      clear hv
      simp only [List.length_nil]
      go_wp2_with fail
      refine (alive_any _).mono ?_
      rintro e w6 ⟨rfl, hB6⟩
      have hb6 := next hb5 hB6
      go_wp2_with fail
      go_ret
      exact ⟨rfl, hb6⟩
    | true =>
      obtain ⟨q, HQ⟩ : ∃ q, Hid (courseL t = q) := ⟨_, hide rfl⟩
      have HM := hide (fun (k : Nat) (hk : k < t.length) => mayOf_iff hv hk)
      have HAS := hide (may_asc t)
      rw [HQ.out] at HM
      rw [HF.out] at HAS
      clear hv
      go_wp2_with fail
      refine (implTicketCourse_any _ _ _ _ HT5.out htl HTP5.out).mono ?_
      rintro e w6 ⟨rfl, hB6⟩
      rw [HQ.out]
      have hb6 := next hb5 hB6
      have HT6 := hide (HT5.out.below hB6)
      have HF6 := hide (HF5.out.below hB6)
      clear hB6 HT5 HF5
      go_wp2_with fail
      go_loopw [6] (fun i wr => ∃ k : Nat, k ≤ t.length ∧ i = .int .i64 k ∧ Below w6.heap.size w6 wr) (fun i _ => t.length - (intOf i).toNat)
      case atStart => exact ⟨0, Nat.zero_le _, rfl, Below.refl _ _⟩
      case round =>
        obtain ⟨k, hk, rfl, hd⟩ := hrel
        have hb := next hb6 hd
        have hsz := hd.size
        have HT7 := hide (HT6.out.below hd)
        have HF7 := hide (HF6.out.below hd)
        have HQF : Hid (∀ N : Nat, IntsAt (wr.drewN N) A2 F) := hide (fun N => HF7.out)
        by_cases hlt : k < t.length
        · obtain ⟨b, off, rfl, hbl, hc1, hc2'⟩ := HT7.out k t[k] (List.getElem?_eq_getElem hlt)
          have hg : t.getD k ⟨0, 0⟩ = t[k] := by rw [List.getD_eq_getElem?_getD, List.getElem?_eq_getElem hlt]; rfl
          have hm := HM.out k hlt
          rw [hg] at hm
          have HH : Hid (F.any (· == (k : Int)) = mayOf t k) := hide (by rw [← HF.out]; exact may_has hlt)
          generalize t[k] = p at *
          have hz : (0 : Int) ≤ k := by omega
          have hz2 : (k : Int) < t.length := by omega
          by_cases h1 : p.course = q
          · have he : (p.course == q) = true := by simp [h1]
            by_cases h2 : p.state = 0
            · have he2 : (p.state == 0) = true := by simp [h2]
              have H := hide (HH.out.trans (hm.2 ⟨h1, h2⟩))
              clear h1 h2 hm hg
              go_wp2_with fail
              go_quiet ((go_at_call 31; exact Calls.quiet_of_same (hasInt_is _ _ _ _ true H _ (HQF.out _) hFl)))
              go_wp2_with fail
              go_roundw
              case rel => exact ⟨k + 1, hlt, by go_num, below_drewN hd _⟩
              case measure => simp [intOf]; omega
            · have he2 : (p.state == 0) = false := by simp [h2]
              have H := hide (HH.out.trans (Bool.eq_false_iff.2 (fun h => h2 (hm.1 h).2)))
              clear h1 h2 hm hg
              go_wp2_with fail
              go_quiet ((go_at_call 31; exact Calls.quiet_of_same (hasInt_is _ _ _ _ false H _ (HQF.out _) hFl)))
              go_wp2_with fail
              go_roundw
              case rel => exact ⟨k + 1, hlt, by go_num, below_drewN hd _⟩
              case measure => simp [intOf]; omega
          · have he : (p.course == q) = false := by simp [h1]
            have H := hide (HH.out.trans (Bool.eq_false_iff.2 (fun h => h1 (hm.1 h).1)))
            clear h1 hm hg
            go_wp2_with fail
            go_quiet ((go_at_call 31; exact Calls.quiet_of_same (hasInt_is _ _ _ _ false H _ (HQF.out _) hFl)))
            go_wp2_with fail
            go_roundw
            case rel => exact ⟨k + 1, hlt, by go_num, below_drewN hd _⟩
            case measure => simp [intOf]; omega
        · have hz2 : ¬ (k : Int) < t.length := by omega
          go_wp2_with fail
          refine (ascend_any _ _ _ _ HF7.out hFl HAS.out).mono ?_
          rintro e w8 ⟨rfl, hB8⟩
          have hb8 := next hb hB8
          go_wp2_with fail
          go_ret
          exact ⟨rfl, hb8⟩
end Go.Proofs.YthmpopdoihlfdaaDoor
