/- For all drawn bytes the law of FedBy answers true, and its argument reads as it did.
   Conditions: none. -/
import Derived.Test.YtbkelmolhgofpaaDoorLawKit
import Derived.Test.YtbkelmolhgofpaaDoorDrawMenu
namespace Go.Proofs.YtbkelmolhgofpaaDoor
open Go.RowKit Go.ChangeShapes Go.WideShapes Go.ChangeAt

def anyFrom (d : Int) (j : Nat) : Nat → List Int → Bool
  | _, [] => false
  | k, x :: r => (hasB d k && hasB x j) || anyFrom d j (k + 1) r
theorem fedGo_has {d : Int} {j : Nat} : ∀ (m : List Int) (k : Nat) (out : Int), (∀ x ∈ m, 0 ≤ x) → 0 ≤ out → hasB (fedGo d k m out) j = (hasB out j || anyFrom d j k m)
  | [], _, out, _, _ => by simp [fedGo, anyFrom]
  | x :: r, k, out, hm, h0 => by
    have hx := hm x (by simp)
    unfold fedGo anyFrom
    cases hd : hasB d k with
    | false =>
      rw [if_neg (by decide), fedGo_has r (k + 1) out (fun y hy => hm y (by simp [hy])) h0]
      simp
    | true =>
      rw [if_pos rfl, fedGo_has r (k + 1) _ (fun y hy => hm y (by simp [hy])) (by unfold orI; omega), hasB_orI j h0 hx]
      cases hasB out j <;> cases hasB x j <;> rfl

theorem tdiv39 {p : Int} (h0 : 0 ≤ p) (h1 : p < 40) : ∃ t : Int, p.tdiv 39 = t ∧ 0 ≤ t ∧ t ≤ 1 := by
  refine ⟨_, rfl, ?_⟩
  rw [Int.tdiv_eq_ediv_of_nonneg h0]
  omega

/-- A number of guests, a menu, and dishes, drawn. -/
def DrewChosen (w : World) (b : Nat) (e : Ending) (w' : World) : Prop := ∃ (gs : Int) (ls : List Int) (g c : Nat) (d : Int), e = .returned (.tuple #[.int .i64 gs, .slice (some ⟨g, 0, none⟩) ls.length c, .int .i64 d]) ∧
  IntSl w' w.heap.size (.slice (some ⟨g, 0, none⟩) ls.length c) ls ∧ ls.length ≤ 7 ∧ (∀ x ∈ ls, 0 ≤ x ∧ x ≤ 64) ∧ -1 ≤ gs ∧ gs ≤ 7 ∧ -1000 ≤ d ∧ d ≤ 1000 ∧ w.grownBy w' (some b)

set_option maxRecDepth 100000 in
set_option maxHeartbeats 2000000 in
theorem l20Chosen_any (b n : Nat) (w : World) (hR : Rd w b n) (hn : n ≤ 70000) :
    Calls Tryd.prog 63 #[.pointer (some ⟨b, 0, none⟩)] w (DrewChosen w b) := by
  have hblt := hR.lt
  go_enter Tryd.func63, Tryd.ntmps63
  go_wp2_with fail
  refine (l20Menu_any b n 12 _ hR (by omega) (by omega)).mono ?_
  rintro e w1 ⟨gs, ls, g, c, rfl, hS1, hl7, hle, hg0, hg7, hR1, hg1⟩
  have HS1 := hide hS1
  have HG1 := hide hg1
  have HLE := hide hle
  obtain ⟨L, HL⟩ : ∃ L, Hid (ls.length = L) := ⟨_, hide rfl⟩
  have hz1 := HG1.out.size
  clear hS1 hg1 hle
  rw [HL.out] at HS1 hl7 ⊢
  obtain ⟨T, hT, hT6⟩ : ∃ T : Nat, (min (L : Int) 6).toNat = T ∧ T ≤ 6 := ⟨_, rfl, by omega⟩
  have hp := pow_range6 T hT6
  have hblt1 := hR1.lt
  go_wp2_with fail
  clear hT
  refine (pick_any b _ (2 ^ T) _ hR1 (by omega) (by omega)).mono ?_
  rintro e w2 ⟨v, rfl, hv0, hv1, hR2, hg2⟩
  have HS2 := hide (HS1.out.pick (by omega) hg2)
  have HG2 := hide (HG1.out.trans hg2)
  have hv64 : v ≤ 64 := by omega
  clear hg2 HS1 HG1 hR1
  go_wp2_with fail
  refine (pick_any b _ 40 _ hR2 (by omega) (by omega)).mono ?_
  rintro e w3 ⟨p, rfl, hp0, hp1, hR3, hg3⟩
  have HS3 := hide (HS2.out.pick (by omega) hg3)
  have HG3 := hide (HG2.out.trans hg3)
  obtain ⟨t, ht, ht0, ht1⟩ := tdiv39 hp0 (by omega)
  have hp39 : p ≤ 39 := by omega
  clear hg3 HS2 HG2 hR2
  go_wp2_with fail
  refine (pick_any b _ 40 _ hR3 (by omega) (by omega)).mono ?_
  rintro e w4 ⟨x, rfl, hx0, hx1, hR4, hg4⟩
  have HS4 := hide (HS3.out.pick (by omega) hg4)
  have HG4 := hide (HG3.out.trans hg4)
  obtain ⟨u, hu, hu0, hu1⟩ := tdiv39 hx0 (by omega)
  have hx39 : x ≤ 39 := by omega
  clear hg4 HS3 HG3 hR3 hR4
  go_wp2_with fail
  refine bodyPost_ret (results_tmp3 rfl _ _ _) rfl ⟨gs, ls, g, c, v + t * 64 - u * 90, by rw [HL.out]; rfl, by rw [HL.out]; exact HS4.out, by rw [HL.out]; exact hl7, HLE.out, hg0, hg7, by omega, by omega, HG4.out⟩

def DrawnChosen (w : World) (e : Ending) (w' : World) : Prop := ∃ (gs : Int) (ls : List Int) (g c : Nat) (d : Int), e = .returned (.tuple #[.int .i64 gs, .slice (some ⟨g, 0, none⟩) ls.length c, .int .i64 d]) ∧
  IntSl w' w.heap.size (.slice (some ⟨g, 0, none⟩) ls.length c) ls ∧ ls.length ≤ 7 ∧ (∀ x ∈ ls, 0 ≤ x ∧ x ≤ 64) ∧ -1 ≤ gs ∧ gs ≤ 7 ∧ -1000 ≤ d ∧ d ≤ 1000 ∧ Below w.heap.size w w'

set_option maxHeartbeats 1000000 in
theorem drawFedBy_any (A : Option Addr) (c m : Nat) (w : World) (hB : BytesIn w A m) (hm : m ≤ 9223372036854775807) (hc : m ≤ c) (hc2 : c ≤ 9223372036854775807) :
    Calls Tryd.prog 19 #[.slice A m c] w (DrawnChosen w) := by
  go_enter Tryd.func19, Tryd.ntmps19
  go_wp2_with fail
  refine (open_any A c m w hB hm hc hc2).mono ?_
  rintro e w1 ⟨rfl, hR1, hb1⟩
  have hz1 := hb1.size
  go_wp2_with fail
  refine (l20Chosen_any w.heap.size 0 _ hR1 (by omega)).mono ?_
  rintro e w2 ⟨gs, ls, g, c2, d, rfl, hS2, hl7, hle, hg0, hg7, hd0, hd1, hg2⟩
  have hb2 : Below w.heap.size w w2 := hb1.grown hg2 hz1 (fun j hj => by injection hj with hj; omega)
  have HS2 := hide (ownsRow_mono hS2 hz1)
  have HLE := hide hle
  clear hg2 hS2 hle
  go_wp2_with fail
  refine bodyPost_ret (results_tmp3 rfl _ _ _) rfl ⟨gs, ls, g, c2, d, rfl, HS2.out, hl7, HLE.out, hg0, hg7, hd0, hd1, hb2⟩

set_option maxRecDepth 100000 in
set_option maxHeartbeats 4000000 in
theorem lawFedBy_any (A : Option Addr) (c m : Nat) (w : World) (hB : BytesIn w A m) (hc : m ≤ c) (hc2 : c ≤ 9223372036854775807) :
    Calls Tryd.prog 4 #[.slice A m c] w fun e w' => e = .returned (.bool true) ∧ Below w.heap.size w w' := by
  by_cases hlen : (1048576 : Int) < m
  · go_enter Tryd.func4, Tryd.ntmps4
    go_wp2_with fail
    go_ret
    exact ⟨rfl, by go_grown⟩
  · go_enter Tryd.func4, Tryd.ntmps4
    go_wp2_with fail
    refine (drawFedBy_any A c m w hB (by omega) hc hc2).mono ?_
    rintro e w1 ⟨gs, ls, g, c1, d, rfl, hS, hl7, hle, hg0, hg7, hd0, hd1, hb1⟩
    have HI1 := hide hS.ints
    have HLE := hide hle
    clear hS hle
    cases hok : (menuOk gs ls && inR d 0 (full ls.length)) with
    | false =>
      have HF : Hid (fedL gs ls d = -1) := hide (by unfold fedL; rw [hok]; rfl)
      clear hok
      go_wp2_with fail
      refine (implFedBy_any _ _ _ _ _ _ HI1.out (by omega)).mono ?_
      rintro e w2 ⟨rfl, hB2⟩
      rw [HF.out]
      have hb2 := next hb1 hB2
      have HI2 := hide (HI1.out.below hB2)
      clear hB2 HI1
      go_wp2_with fail
      refine (specFedBy_any _ _ _ _ _ _ HI2.out (by omega)).mono ?_
      rintro e w3 ⟨rfl, hB3⟩
      rw [HF.out]
      have hb3 := next hb2 hB3
      clear hB3
      go_wp2_with fail
      refine (alive_any _).mono ?_
      rintro e w4 ⟨rfl, hB4⟩
      go_wp2_with fail
      go_ret
      exact ⟨rfl, next hb3 hB4⟩
    | true =>
      have hok2 := hok
      rw [Bool.and_eq_true] at hok2
      have hM := hok2.1
      have h6 := menuOk_len hM
      have hgs := menuOk_g hM
      have hgs0 := hgs.1
      have hgs6 := hgs.2
      have hdr := inR_iff.1 hok2.2
      have hfl := full_range (g := ls.length) (by omega) (by omega)
      have hd00 : 0 ≤ d := hdr.1
      have hd64 : d < 64 := by omega
      have hp := pow_range6 gs.toNat (by omega)
      have HX : Hid (∀ x ∈ ls, 0 ≤ x ∧ x < 2 ^ gs.toNat) := hide (fun x hx => by
        have h1 := menuOk_at hM hx
        have h2 : full gs = 2 ^ gs.toNat - 1 := rfl
        omega)
      have hF := fedGo_lt (d := d) (k := gs.toNat) ls 0 0 HX.out (by omega) (by omega)
      have HF : Hid (fedL gs ls d = fedGo d 0 ls 0) := hide (fed_yes hM hok2.2)
      have HH : Hid (∀ j : Nat, hasB (fedGo d 0 ls 0) j = anyFrom d j 0 ls) := hide (fun j => by
        rw [fedGo_has ls 0 0 (fun x hx => (HX.out x hx).1) (by omega), show hasB 0 j = false from by unfold hasB; simp, Bool.false_or])
      rw [show fedL gs ls d = fedGo d 0 ls 0 from HF.out] at HF
      have HCI := hide (fun W hW => implFedBy_any gs (some ⟨g, 0, none⟩) c1 ls d W hW (by omega))
      have HCS := hide (fun W hW => specFedBy_any gs (some ⟨g, 0, none⟩) c1 ls d W hW (by omega))
      rw [show fedL gs ls d = fedGo d 0 ls 0 from fed_yes hM hok2.2] at HCI HCS
      generalize fedGo d 0 ls 0 = F at *
      have hFF : (F != F) = false := by simp
      have hF0 : ¬ F < 0 := by omega
      clear hok hok2 hM hgs hdr hfl HF
      go_wp2_with fail
      refine (HCI.out _ HI1.out).mono ?_
      rintro e w2 ⟨rfl, hB2⟩
      have hb2 := next hb1 hB2
      have HI2 := hide (HI1.out.below hB2)
      clear hB2 HI1
      go_wp2_with fail
      refine (HCS.out _ HI2.out).mono ?_
      rintro e w3 ⟨rfl, hB3⟩
      have hb3 := next hb2 hB3
      have HI3 := hide (HI2.out.below hB3)
      clear hB3 HI2
      go_wp2_with fail
      go_loopw [7] (fun iv wr => ∃ j : Nat, (j : Int) ≤ gs ∧ iv = .int .i64 j ∧ wr = w3) (fun iv _ => (gs - intOf iv).toNat)
      case atStart => exact ⟨0, by omega, rfl, rfl⟩
      case round =>
        obtain ⟨j, hj, rfl, rfl⟩ := hrel
        by_cases hjl : (j : Int) < gs
        · have hj0 : (0 : Int) ≤ j := by omega
          have HHJ := hide (HH.out j)
          go_wp2_with fail
          go_loopw [8, 9] (fun sv tv wr2 => ∃ (t : Nat) (s : Bool), t ≤ ls.length ∧ tv = .int .i64 t ∧ sv = .bool s ∧ Hid (hasB F j = (s || anyFrom d j t (ls.drop t))) ∧ wr2 = wr) (fun _ tv _ => ls.length - (intOf tv).toNat)
          case atStart => exact ⟨0, false, Nat.zero_le _, rfl, rfl, hide (by rw [HHJ.out]; rfl), rfl⟩
          case round =>
            obtain ⟨t, s, ht, rfl, rfl, HT, rfl⟩ := hrel
            by_cases htl : t < ls.length
            · obtain ⟨ab, off, hA', hbl, hc1⟩ := HI3.out t ls[t] (List.getElem?_eq_getElem htl)
              injection hA' with hA'
              injection hA' with hA1 hA2
              subst hA1 hA2
              rw [Nat.zero_add] at hc1
              have HE : Hid (ls.drop t = ls[t] :: ls.drop (t + 1)) := hide (List.drop_eq_getElem_cons htl)
              have hx := HX.out ls[t] (List.getElem_mem htl)
              generalize ls[t] = x at *
              have hx0 : 0 ≤ x := hx.1
              have hx64 : x < 64 := by omega
              have hq1 := div_range d t hd00 hd64
              have hq2 := div_range x j hx0 hx64
              have ht0 : (0 : Int) ≤ t := by omega
              have ht1 : (t : Int) < ls.length := by omega
              clear hx
              cases s with
              | true =>
                have H3 : Hid (hasB F j = (true || anyFrom d j (t + 1) (ls.drop (t + 1)))) := hide (by rw [HT.out]; simp)
                go_wp2_with fail
                go_roundw
                case rel => exact ⟨t + 1, true, htl, by go_num, rfl, H3, trivial⟩
                case measure => simp [intOf]; omega
              | false =>
                cases hh1 : hasB d t with
                | false =>
                  have hf1 : (d / 2 ^ t % 2 == 1) = false := hh1
                  have H3 : Hid (hasB F j = (false || anyFrom d j (t + 1) (ls.drop (t + 1)))) := hide (by rw [HT.out, HE.out, anyFrom, hh1]; simp)
                  clear hh1
                  go_wp2_with fail
                  go_roundw
                  case rel => exact ⟨t + 1, false, htl, by go_num, rfl, H3, trivial⟩
                  case measure => simp [intOf]; omega
                | true =>
                  have hf1 : (d / 2 ^ t % 2 == 1) = true := hh1
                  cases hh2 : hasB x j with
                  | false =>
                    have hf2 : (x / 2 ^ j % 2 == 1) = false := hh2
                    have H3 : Hid (hasB F j = (false || anyFrom d j (t + 1) (ls.drop (t + 1)))) := hide (by rw [HT.out, HE.out, anyFrom, hh1, hh2]; simp)
                    clear hh1 hh2
                    go_wp2_with fail
                    go_roundw
                    case rel => exact ⟨t + 1, false, htl, by go_num, rfl, H3, trivial⟩
                    case measure => simp [intOf]; omega
                  | true =>
                    have hf2 : (x / 2 ^ j % 2 == 1) = true := hh2
                    have H3 : Hid (hasB F j = (true || anyFrom d j (t + 1) (ls.drop (t + 1)))) := hide (by rw [HT.out, HE.out, anyFrom, hh1, hh2]; simp)
                    clear hh1 hh2
                    go_wp2_with fail
                    go_roundw
                    case rel => exact ⟨t + 1, true, htl, by go_num, rfl, H3, trivial⟩
                    case measure => simp [intOf]; omega
            · have hS : hasB F j = s := by rw [HT.out, List.drop_of_length_le (by omega), anyFrom, Bool.or_false]
              have hq3 := div_range F j hF.1 (by omega)
              cases s with
              | true =>
                have hf3 : (F / 2 ^ j % 2 == 1) = true := hS
                clear hS
                go_wp2_with fail
                go_roundw
                case rel => exact ⟨j + 1, by omega, by go_num, trivial⟩
                case measure => simp [intOf]; omega
              | false =>
                have hf3 : (F / 2 ^ j % 2 == 1) = false := hS
                clear hS
                go_wp2_with fail
                go_roundw
                case rel => exact ⟨j + 1, by omega, by go_num, trivial⟩
                case measure => simp [intOf]; omega
        · have hFl : F < 2 ^ gs.toNat := hF.2
          go_wp2_with fail
          go_ret
          exact ⟨rfl, hb3⟩
end Go.Proofs.YtbkelmolhgofpaaDoor
