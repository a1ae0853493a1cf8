/- Guests13: contracts of SeatsLeast of the reference model.
   Conditions: lists have at most 1048576 elements. -/
import Derived.Test.YtgpcbigaeodhfaaDoorGuests12
namespace Go.Proofs.YtgpcbigaeodhfaaDoor
open Go.RowKit Go.ChangeShapes Go.WideShapes Go.ChangeAt Go.Deep

theorem tblS_len (g : Int) (q : List Int) : ∀ n, (tblS g q n).length = n
  | 0 => rfl
  | n + 1 => by simp [tblS, tblS_len g q n]
theorem tblS_one (g : Int) (q : List Int) : tblS g q 1 = [0] := rfl

set_option maxRecDepth 100000 in
set_option maxHeartbeats 4000000 in
theorem specSeatsLeast_any (g : Int) (A : Option Addr) (c : Nat) (q : List Int) (w : World) (hA : IntsAt w A q) (hl : q.length ≤ 1048576) :
    Calls Tryd.prog 40 #[.int .i64 g, .slice A q.length c] w fun e w' => e = .returned (.int .i64 (seatsLeastL g q)) ∧ Below w.heap.size w w' := by
  cases hQ : quarOk g q with
  | false =>
    have HQ := hide hQ
    have HR := hide (sl_no hQ)
    clear hQ
    go_enter Tryd.func40, Tryd.ntmps40
    go_wp2_with fail
    refine (specQuarrelsValid_any _ _ _ _ _ hA hl).mono ?_
    rintro e w1 ⟨rfl, hB1⟩
    rw [HQ.out]
    go_wp2_with fail
    go_ret
    exact ⟨by rw [HR.out]; rfl, hB1⟩
  | true =>
    have HQ := hide hQ
    have hg := quarOk_g hQ
    have h0 := hg.1
    have h1 := hg.2.1
    have HX : Hid (∀ x ∈ q, 0 ≤ x ∧ x < 64) := hide (fun x hx => ⟨(quarOk_at hQ hx).1, (quarOk_at hQ hx).2.2⟩)
    obtain ⟨n, hn⟩ : ∃ n : Nat, n = q.length := ⟨_, rfl⟩
    obtain rfl : g = n := by omega
    have hnq1 : n ≤ q.length := by omega
    have hnq2 : q.length ≤ n := by omega
    have hn6 : n ≤ 6 := by omega
    have hp := pow_range6 n hn6
    have HN : Hid (((2 ^ n : Nat) : Int) = (2 : Int) ^ n) := hide (by simp)
    have HTS : Hid (∀ k : Nat, (k : Int) ≤ 2 ^ n → tblI q k = tblS n q k) := hide (fun k hk => by
      have := (tbl_same hQ k (by rw [Int.toNat_natCast]; have := HN.out; omega)).1
      exact this)
    have HR : Hid (seatsLeastL n q = (tblI q (2 ^ n)).getD (2 ^ n - 1) 0) := hide (by unfold seatsLeastL; rw [if_pos hQ, Int.toNat_natCast])
    clear hn hg hQ
    go_enter Tryd.func40, Tryd.ntmps40
    go_wp2_with fail
    refine (specQuarrelsValid_any _ _ _ _ _ hA hl).mono ?_
    rintro e w1 ⟨rfl, hB1⟩
    rw [HQ.out]
    have hszB := hB1.size
    have HO0 : Hid (IntSl (w1.alloc (.cells #[.int .i64 0] 3)) w.heap.size (.slice (some ⟨w1.heap.size, 0, none⟩) 1 1) [0]) := hide (World.ownsRow_lit w1 #[.int .i64 0] 1 hszB (by unfold maxLen; omega) rfl)
    have HBA0 : Hid (Below w.heap.size w (w1.alloc (.cells #[.int .i64 0] 3))) := hide (by go_grown)
    go_wp2_with fail
    go_loopw [5, 6] (fun ov iv wr => ∃ k : Nat, 1 ≤ k ∧ (k : Int) ≤ 2 ^ n ∧ iv = .int .i64 k ∧ IntSl wr w.heap.size ov (tblS n q k) ∧ Below w.heap.size w wr) (fun _ iv _ => (64 - intOf iv).toNat)
    case atStart => exact ⟨1, by omega, by omega, rfl, HO0.out, HBA0.out⟩
    case round =>
      clear HO0 HBA0 hB1 hszB
      obtain ⟨k, hk1, hk2, rfl, hS, hb⟩ := hrel
      have hsz := hb.size
      by_cases hlt : (k : Int) < 2 ^ n
      · have hk0 : (0 : Int) ≤ k := by omega
        have hk64 : (k : Int) < 64 := by omega
        obtain ⟨Ao, co, hv, -, -⟩ := hS.form
        have hsl := tblS_len n q k
        rw [hsl] at hv
        subst hv
        have HSL := hide hsl
        have HTR : Hid (∀ x ∈ tblS n q k, 0 ≤ x ∧ x ≤ 64) := hide (by rw [← HTS.out k (by omega)]; exact tblI_range q k)
        have HS := hide hS
        clear hS hsl
        go_wp2_with fail
        go_loopw [7, 8] (fun bv pv wr => ∃ (p : Nat) (v : Int), p ≤ k ∧ pv = .int .i64 ((p : Int) + 1) ∧ bv = .int .i64 v ∧ 0 ≤ v ∧ v ≤ 64 ∧ Hid (partGo q (tblS n q k) k n p = v) ∧ IntSl wr w.heap.size (.slice Ao k co) (tblS n q k) ∧ Below w.heap.size w wr) (fun _ pv _ => (66 - intOf pv).toNat)
        case atStart => exact ⟨0, n, Nat.zero_le _, by simp, rfl, by omega, by omega, hide rfl, HS.out, hb⟩
        case round =>
          clear HS hb hsz
          obtain ⟨p, v, hpk, rfl, rfl, hv0, hv1, HV, hS, hb⟩ := hrel
          have hsz := hb.size
          by_cases hpl : p < k
          · have hp0 : (0 : Int) ≤ (p : Int) + 1 := by omega
            have hp1 : (p : Int) + 1 < 64 := by omega
            have hp2 : (p : Int) + 1 ≤ k := by omega
            have HCW := hide (fun W => l1Meet64_w ((p : Int) + 1) (k : Int) W hp0 hp1 hk0 hk64)
            have HPC : Hid (((p + 1 : Nat) : Int) = (p : Int) + 1) := hide (by omega)
            cases hm : (meetI ((p : Int) + 1) k == (p : Int) + 1) with
            | false =>
              have H3 : Hid (partGo q (tblS n q k) k n (p + 1) = v) := hide (partGo_not HV.out (by rw [HPC.out, hm]; rfl))
              have HS := hide hS
              clear hS
              generalize meetI ((p : Int) + 1) k = z at *
              go_wp2_with fail
              refine (HCW.out _).mono ?_
              rintro e w3 ⟨rfl, rfl⟩
              go_wp2_with fail
              go_roundw
              case rel => exact ⟨p + 1, v, hpl, by go_num, rfl, hv0, hv1, H3, HS.out, hb⟩
              case measure => simp [intOf]; omega
            | true =>
              cases ha : apartS ((p : Int) + 1) q with
              | false =>
                have HA := hide ha
                have H3 : Hid (partGo q (tblS n q k) k n (p + 1) = v) := hide (partGo_not HV.out (by rw [HPC.out, ha]; simp))
                have HS := hide hS
                clear hS ha
                generalize meetI ((p : Int) + 1) k = z at *
                go_wp2_with fail
                refine (HCW.out _).mono ?_
                rintro e w3 ⟨rfl, rfl⟩
                go_wp2_with fail
                refine (l6Free_any _ _ _ _ _ (hA.below hb) (by omega) HX hp0 hp1).mono ?_
                rintro e w3 ⟨rfl, rfl⟩
                rw [HA.out]
                go_wp2_with fail
                go_roundw
                case rel => exact ⟨p + 1, v, hpl, by go_num, rfl, hv0, hv1, H3, HS.out, hb⟩
                case measure => simp [intOf]; omega
              | true =>
                have HA := hide ha
                have hkp : k - (p + 1) < k := by omega
                obtain ⟨y, HY⟩ : ∃ y, Hid ((tblS n q k)[k - (p + 1)]? = some y) := ⟨_, hide (List.getElem?_eq_getElem (by rw [HSL.out]; exact hkp))⟩
                have hyr := HTR.out y (List.mem_of_getElem? HY.out)
                have HYD : Hid ((tblS n q k).getD ((k : Int) - ((p + 1 : Nat) : Int)).toNat 0 = y) := hide (by rw [show ((k : Int) - ((p + 1 : Nat) : Int)).toNat = k - (p + 1) from by omega]; exact getD_at HY.out)
                have HST : Hid (partGo q (tblS n q k) k n (p + 1) = if v ≤ y + 1 then v else y + 1) := hide (partGo_yes HV.out (by rw [HPC.out]; exact hm) (by rw [HPC.out]; exact ha) HYD.out)
                obtain ⟨bo, offo, rfl, hblo, hcy⟩ := hS.ints (k - (p + 1)) y HY.out
                have HS := hide hS
                obtain ⟨r, hr⟩ : ∃ r : Nat, r = k - (p + 1) := ⟨_, rfl⟩
                rw [← hr] at hcy
                have hr2 : (k : Int) - ((p : Int) + 1) = r := by omega
                have hr0 : (0 : Int) ≤ r := by omega
                have hr1 : (r : Int) < k := by omega
                clear hS ha hr
                generalize meetI ((p : Int) + 1) k = z at *
                by_cases hvy : v ≤ y + 1
                · have H3 : Hid (partGo q (tblS n q k) k n (p + 1) = v) := hide (by rw [HST.out, if_pos hvy])
                  have hvy2 : ¬ (y + 1 < v) := by omega
                  go_wp2_with fail
                  refine (HCW.out _).mono ?_
                  rintro e w3 ⟨rfl, rfl⟩
                  go_wp2_with fail
                  refine (l6Free_any _ _ _ _ _ (hA.below hb) (by omega) HX hp0 hp1).mono ?_
                  rintro e w3 ⟨rfl, rfl⟩
                  rw [HA.out]
                  go_wp2_with fail
                  go_roundw
                  case rel => exact ⟨p + 1, v, hpl, by go_num, rfl, by omega, by omega, H3, HS.out, hb⟩
                  case measure => simp [intOf]; omega
                · have H3 : Hid (partGo q (tblS n q k) k n (p + 1) = y + 1) := hide (by rw [HST.out, if_neg hvy])
                  have hvy2 : y + 1 < v := by omega
                  go_wp2_with fail
                  refine (HCW.out _).mono ?_
                  rintro e w3 ⟨rfl, rfl⟩
                  go_wp2_with fail
                  refine (l6Free_any _ _ _ _ _ (hA.below hb) (by omega) HX hp0 hp1).mono ?_
                  rintro e w3 ⟨rfl, rfl⟩
                  rw [HA.out]
                  go_wp2_with fail
                  go_roundw
                  case rel => exact ⟨p + 1, y + 1, hpl, by go_num, rfl, by omega, by omega, H3, HS.out, hb⟩
                  case measure => simp [intOf]; omega
          · obtain rfl : p = k := by omega
            have HE : Hid (tblS n q p ++ [v] = tblS n q (p + 1)) := hide (by rw [tblS, cellS, if_neg (by omega), HV.out])
            have hlen : (tblS n q p).length ≤ 64 := by rw [HSL.out]; omega
            have HSA := hide (World.ownsRow.alloc hS (.cells #[.int .i64 v] 3))
            have HBA := hide (hb.alloc hsz (.cells #[.int .i64 v] 3))
            have HLT := hide (World.ownsRow.lt hS)
            clear hS
            go_wp2_with (at_builtin; refine wpList_push_int rfl _ _ rfl w.heap.size (.slice Ao p co) (tblS n q p) rfl HSA.out wr.heap.size v rfl (heap_alloc_new wr _) (by omega) (by simp; omega) ?_; intro g5 cap w5 hown hgrow hnew)
            have hb5 : Below w.heap.size w w5 := HBA.out.grown hgrow (by simp; omega) (fun k hk => (HLT.out k hk).1)
            rw [HE.out] at hown
            clear hgrow hnew
            go_wp2_with fail
            go_roundw
            case rel => exact ⟨p + 1, by omega, by omega, by go_num, hown, hb5⟩
            case measure => simp [intOf]; omega
      · obtain ⟨i, rfl⟩ : ∃ i, k = i + 1 := ⟨k - 1, by omega⟩
        have HK : Hid (i + 1 = 2 ^ n) := hide (by have := HN.out; omega)
        have hsl := tblS_len n q (i + 1)
        obtain ⟨y, HY⟩ : ∃ y, Hid ((tblS n q (i + 1))[i]? = some y) := ⟨_, hide (List.getElem?_eq_getElem (by omega))⟩
        have H3 : Hid (seatsLeastL n q = y) := hide (by rw [HR.out, ← HK.out, HTS.out (i + 1) (by omega), show i + 1 - 1 = i from rfl]; exact getD_at HY.out)
        obtain ⟨Ao, co, hv, -, -⟩ := hS.form
        rw [hsl] at hv
        subst hv
        obtain ⟨bo, offo, rfl, hblo, hcy⟩ := hS.ints i y HY.out
        have hi0 : (0 : Int) ≤ i := by omega
        clear hS hsl
        go_wp2_with fail
        go_ret
        exact ⟨by rw [H3.out]; rfl, hb⟩
end Go.Proofs.YtgpcbigaeodhfaaDoor
