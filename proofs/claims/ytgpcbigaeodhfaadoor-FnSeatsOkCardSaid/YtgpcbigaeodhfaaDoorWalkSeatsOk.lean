/- For all drawn bytes the law of SeatsOk answers true, and its argument reads as it did.
   Conditions: none. -/
import Derived.Test.YtgpcbigaeodhfaaDoorLawKit
import Derived.Test.YtgpcbigaeodhfaaDoorDrawSeat
import Derived.Test.YtgpcbigaeodhfaaDoorZ4
import Derived.Test.YtgpcbigaeodhfaaDoorGuests15
import Derived.Test.YtgpcbigaeodhfaaDoorSeatMath2
namespace Go.Proofs.YtgpcbigaeodhfaaDoor
open Go.RowKit Go.ChangeShapes Go.WideShapes Go.ChangeAt Go.Deep

def DrawnSeatsOk (w : World) (e : Ending) (w' : World) : Prop := ∃ (gs : Int) (ls : List Int) (g c : Nat) (ss : List Int) (S : Option Addr) (d : Nat), e = .returned (.tuple #[.int .i64 gs, .slice (some ⟨g, 0, none⟩) ls.length c, .slice S ss.length d]) ∧
  IntsAt w' (some ⟨g, 0, none⟩) ls ∧ ls.length ≤ 7 ∧ IntsAt w' S ss ∧ ss.length ≤ 7 ∧ (∀ x ∈ ss, -1 ≤ x ∧ x ≤ 7) ∧ Below w.heap.size w w'

set_option maxHeartbeats 1000000 in
theorem drawSeatsOk_any (A : Option Addr) (c m : Nat) (w : World) (hB : BytesIn w A m) (hm : m ≤ 9223372036854775807) (hc : m ≤ c) (hc2 : c ≤ 9223372036854775807) :
    Calls Tryd.prog 26 #[.slice A m c] w (DrawnSeatsOk w) := by
  go_enter Tryd.func26, Tryd.ntmps26
  go_wp2_with fail
  refine (open_any A c m w hB hm hc hc2).mono ?_
  rintro e w1 ⟨rfl, hR1, hb1⟩
  have hz1 := hb1.size
  go_wp2_with fail
  refine (l20Seated_any w.heap.size 0 _ hR1 (by omega)).mono ?_
  rintro e w2 ⟨gs, ls, g, c2, ss, v, rfl, hS2, hl7, hV2, hs7, hsr, hR2, hg2⟩
  have hb2 : Below w.heap.size w w2 := hb1.grown hg2 hz1 (fun j hj => by injection hj with hj; omega)
  have HS2 := hide (IntSl.ints hS2)
  obtain ⟨S, d, rfl, hSI, -⟩ := hV2.form
  have HSI := hide hSI
  have HSR := hide hsr
  clear hg2 hS2 hV2 hSI hsr
  go_wp2_with fail
  refine bodyPost_ret (v := .tuple #[.int .i64 gs, .slice (some ⟨g, 0, none⟩) ls.length c2, .slice S ss.length d]) (by simp [results, Tryd.results26, go_sem]) rfl ⟨gs, ls, g, c2, ss, S, d, rfl, HS2.out, hl7, HSI.out, hs7, HSR.out, hb2⟩

set_option maxRecDepth 100000 in
set_option maxHeartbeats 4000000 in
theorem lawSeatsOk_any (A : Option Addr) (c m : Nat) (w : World) (hB : BytesIn w A m) (hc : m ≤ c) (hc2 : c ≤ 9223372036854775807) :
    Calls Tryd.prog 6 #[.slice A m c] w fun e w' => e = .returned (.bool true) ∧ Below w.heap.size w w' := by
  by_cases hlen : (1048576 : Int) < m
  · go_enter Tryd.func6, Tryd.ntmps6
    go_wp2_with fail
    go_ret
    exact ⟨rfl, by go_grown⟩
  · go_enter Tryd.func6, Tryd.ntmps6
    go_wp2_with fail
    refine (drawSeatsOk_any A c m w hB (by omega) hc hc2).mono ?_
    rintro e w1 ⟨gs, ls, g, c1, ss, S, d1, rfl, hI, hl7, hS, hs7, hsr, hb1⟩
    have HI1 := hide hI
    have HS1 := hide hS
    have HWF : Hid (∀ x ∈ ss, (Lit.int .i64 x).wf = true) := hide (fun x hx => WalkArith.wf_i64 (by have := hsr x hx; omega))
    obtain ⟨v, HV⟩ : ∃ v, Hid (seatsOkL gs ls ss = v) := ⟨_, hide rfl⟩
    have hbb : (v != v) = false := by simp
    clear hI hS hsr
    go_wp2_with fail
    refine (implSeatsOk_any _ _ _ _ _ _ _ _ HI1.out (by omega) HS1.out (by omega)).mono ?_
    rintro e w2 ⟨rfl, hB2⟩
    rw [HV.out]
    have hb2 := next hb1 hB2
    have HI2 := hide (HI1.out.below hB2)
    have HS2 := hide (HS1.out.below hB2)
    clear hB2 HI1 HS1
    go_wp2_with fail
    refine (specSeatsOk_any _ _ _ _ _ _ _ _ HI2.out (by omega) HS2.out (by omega)).mono ?_
    rintro e w3 ⟨rfl, hB3⟩
    rw [HV.out]
    have hb3 := next hb2 hB3
    have HI3 := hide (HI2.out.below hB3)
    have HS3 := hide (HS2.out.below hB3)
    clear hB3 HI2 HS2
    cases v with
    | false =>
      go_wp2_with fail
      refine (alive_any _).mono ?_
      rintro e we ⟨rfl, hBe⟩
      go_wp2_with fail
      go_ret
      exact ⟨rfl, next hb3 hBe⟩
    | true =>
      obtain ⟨N, HN⟩ : ∃ N, Hid (manyGo [] ss = N) := ⟨_, hide rfl⟩
      obtain ⟨L, HL⟩ : ∃ L, Hid (seatsLeastL gs ls = L) := ⟨_, hide rfl⟩
      obtain ⟨C, HC⟩ : ∃ C, Hid (cliqueMostL gs ls = C) := ⟨_, hide rfl⟩
      have hLN : L ≤ N := by rw [← HL.out, ← HN.out]; exact least_many HV.out
      have hCN : C ≤ N := by
        have := clique_least (seats_at HV.out).1
        rw [HC.out, HL.out] at this
        omega
      have hd1 : decide (L ≤ N) = true := decide_eq_true hLN
      have hd2 : decide (C ≤ N) = true := decide_eq_true hCN
      go_wp2_with fail
      refine (implSeatsMany_any _ _ _ _ HS3.out (by omega) HWF.out).mono ?_
      rintro e w4 ⟨rfl, hB4⟩
      rw [HN.out]
      have hb4 := next hb3 hB4
      have HI4 := hide (HI3.out.below hB4)
      clear hB4 HI3 HS3
      go_wp2_with fail
      refine (implSeatsLeast_any _ _ _ _ _ HI4.out (by omega)).mono ?_
      rintro e w5 ⟨rfl, hB5⟩
      rw [HL.out]
      have hb5 := next hb4 hB5
      have HI5 := hide (HI4.out.below hB5)
      clear hB5 HI4
      go_wp2_with fail
      refine (implCliqueMost_any _ _ _ _ _ HI5.out (by omega)).mono ?_
      rintro e w6 ⟨rfl, hB6⟩
      rw [HC.out]
      go_wp2_with fail
      go_ret
      exact ⟨rfl, next hb5 hB6⟩
end Go.Proofs.YtgpcbigaeodhfaaDoor
