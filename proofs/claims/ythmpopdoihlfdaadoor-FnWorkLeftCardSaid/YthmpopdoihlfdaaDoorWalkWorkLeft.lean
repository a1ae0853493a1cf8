/- For all drawn bytes the law of WorkLeft answers true, and its argument reads as it did.
   Conditions: piecesLeft holds what the source says. -/
import Derived.Test.YthmpopdoihlfdaaDoorDrawKitK
import Derived.Test.YthmpopdoihlfdaaDoorAlive
import Derived.Test.YthmpopdoihlfdaaDoorTick3
import Derived.Test.YthmpopdoihlfdaaDoorTick7
import Derived.Test.YthmpopdoihlfdaaDoorTickMath2
namespace Go.Proofs.YthmpopdoihlfdaaDoor
open Go.RowKit Go.ChangeShapes Go.WideShapes Go.ChangeAt Go.Deep

theorem workLeft_one {t : List Order} (h : ticketOkL t = true) : workLeftL [t] = leftT t := by
  have : kitchenOkL [t] = true := by unfold kitchenOkL; simp [h]
  unfold workLeftL
  rw [if_pos this, leftK, leftK]
  omega
theorem TicksAt.one {w : World} {g c : Nat} {A : Option Addr} {x : List Order} (hg : w.heap[g]? = some (.cells #[.slice A x.length c] 23 (0, 0))) (hI : OrdersAt w A x) : TicksAt w (some ⟨g, 0, none⟩) [x] := by
  intro i y hy
  cases i with
  | zero =>
    obtain rfl : x = y := by simpa using hy
    exact ⟨g, 0, A, c, rfl, (Array.getElem?_eq_some_iff.1 hg).1, by simp [World.cell?, hg], hI⟩
  | succ i => simp at hy

set_option maxRecDepth 100000 in
set_option maxHeartbeats 4000000 in
theorem lawWorkLeft_any (A : Option Addr) (c m : Nat) (w : World) (hB : BytesIn w A m) (hc : m ≤ c) (hc2 : c ≤ 9223372036854775807) (hTP : PiecesAt w) :
    Calls Tryd.prog 12 #[.slice A m c] w fun e w' => e = .returned (.bool true) ∧ Below w.heap.size w w' := by
  by_cases hlen : (1048576 : Int) < m
  · go_enter Tryd.func12, Tryd.ntmps12
    go_wp2_with fail
    go_ret
    exact ⟨rfl, by go_grown⟩
  · go_enter Tryd.func12, Tryd.ntmps12
    go_wp2_with fail
    refine (drawWorkLeft_any A c m w hB (by omega) hc hc2).mono ?_
    rintro e w1 ⟨l, G, d, rfl, hS, h5, hx7, hb1⟩
    have HT1 := hide hS.rows
    have hll : l.length ≤ 1048576 := by omega
    have HX : Hid (∀ x ∈ l, x.length ≤ 1048576) := hide (fun x hx => by have := hx7 x hx; omega)
    clear hS hx7
    have HTP1 := hide (hTP.below hb1)
    obtain ⟨q, HQ⟩ : ∃ q, Hid (workLeftL l = q) := ⟨_, hide rfl⟩
    have hqq : (q != q) = false := by simp
    go_wp2_with fail
    refine (implWorkLeft_any _ _ _ _ HT1.out hll HX.out HTP1.out).mono ?_
    rintro e w2 ⟨rfl, hB2⟩
    rw [HQ.out]
    have hb2 := next hb1 hB2
    have HT2 := hide (HT1.out.below hB2)
    go_wp2_with fail
    refine (specWorkLeft_any _ _ _ _ HT2.out hll HX.out).mono ?_
    rintro e w3 ⟨rfl, hB3⟩
    rw [HQ.out]
    have hb3 := next hb2 hB3
    have HT3 := hide (HT2.out.below hB3)
    clear hB2 hB3 HT1 HT2
    cases hv : kitchenOkL l with
    | false =>
      obtain rfl : q = -1 := by rw [← HQ.out]; unfold workLeftL; rw [hv]; rfl
      clear hv
      go_wp2_with fail
      refine (alive_any _).mono ?_
      rintro e w4 ⟨rfl, hB4⟩
      have hb4 := next hb3 hB4
      go_wp2_with fail
      go_ret
      exact ⟨rfl, hb4⟩
    | true =>
      have HV := hide hv
      have HK : Hid (q = leftK l) := hide (by rw [← HQ.out]; unfold workLeftL; rw [if_pos hv])
      have hr := leftK_range l (fun t ht => kitchenOk_at hv ht)
      have h4 := kitchenOk_len hv
      have hq0 : 0 ≤ q := by rw [HK.out]; omega
      have hq1 : q ≤ 72 := by rw [HK.out]; omega
      have HDN := hide (leftK_done (l := l) (fun t ht => kitchenOk_at hv ht))
      clear hv hr
      go_wp2_with fail
      go_loopw [5, 6, 7] (fun sv dv iv wr => ∃ (k : Nat) (s : Int) (dn : Bool), k ≤ l.length ∧ iv = .int .i64 k ∧ sv = .int .i64 s ∧ dv = .bool dn ∧ 0 ≤ s ∧ s ≤ 18 * k ∧ Hid (leftK l = s + leftK (l.drop k)) ∧ Hid (allDone l = (dn && allDone (l.drop k))) ∧ Below w3.heap.size w3 wr) (fun _ _ iv _ => l.length - (intOf iv).toNat)
      case atStart => exact ⟨0, 0, true, Nat.zero_le _, rfl, rfl, rfl, by omega, by omega, hide (by simp), hide (by simp), Below.refl _ _⟩
      case round =>
        obtain ⟨k, s, dn, hk, rfl, rfl, rfl, hs0, hs1, HG, HD, hd⟩ := hrel
        have hb := next hb3 hd
        have hsz := hd.size
        by_cases hlt : k < l.length
        · obtain ⟨b, off, A', c', hA', hbl, hc1, hI⟩ := (HT3.out.below hd) k l[k] (List.getElem?_eq_getElem hlt)
          injection hA' with hA'
          injection hA' with e1 e2
          subst e1 e2
          rw [Nat.zero_add] at hc1
          have HDR : Hid (l.drop k = l[k] :: l.drop (k + 1)) := hide (List.drop_eq_getElem_cons hlt)
          have hok := kitchenOk_at HV.out (List.getElem_mem hlt)
          have hxl : l[k].length ≤ 1048576 := HX.out _ (List.getElem_mem hlt)
          generalize l[k] = x at *
          have hx6 := ticketOk_len hok
          have hxr := leftT_range x (ticketOk_in hok)
          have HONE := hide (workLeft_one hok)
          have HG1 : Hid (leftK l = (s + leftT x) + leftK (l.drop (k + 1))) := hide (by rw [HG.out, HDR.out, leftK]; omega)
          have HD1 : Hid (allDone l = ((dn && doneL x) && allDone (l.drop (k + 1)))) := hide (by rw [HD.out, HDR.out]; unfold allDone; rw [List.all_cons, Bool.and_assoc])
          obtain ⟨y, HY⟩ : ∃ y, Hid (leftT x = y) := ⟨_, hide rfl⟩
          rw [HY.out] at hxr HG1 HONE
          have hz : (0 : Int) ≤ k := by omega
          have hz2 : (k : Int) < l.length := by omega
          have HI := hide hI
          have HTW : Hid (TicksAt (wr.alloc (.cells #[.slice A' x.length c'] 23)) (some ⟨wr.heap.size, 0, none⟩) [x]) := hide (TicksAt.one (heap_alloc_new wr _) (hI.below (by go_grown)))
          have hda : Below w3.heap.size w3 (wr.alloc (.cells #[.slice A' x.length c'] 23)) := by go_grown
          have hba := next hb3 hda
          have HTPa := hide (hTP.below hba)
          clear hI hok HG HD
          go_wp2_with fail
          refine (implWorkLeft_any (some ⟨wr.heap.size, 0, none⟩) _ [x] _ HTW.out (by simp) (fun z hz => by obtain rfl : z = x := by simpa using hz
                                                                                                            exact hxl) HTPa.out).mono ?_
          rintro e w5 ⟨rfl, hB5⟩
          rw [HONE.out]
          have hd5 := next hda hB5
          have hb5 := next hb3 hd5
          have HT5 := hide (HT3.out.below hd5)
          have HTP5 := hide (hTP.below hb5)
          have hck : w5.cell? ⟨G, k, none⟩ = some (.slice A' x.length c') := by
            have h0 : (wr.alloc (.cells #[.slice A' x.length c'] 23)).cell? ⟨G, k, none⟩ = wr.cell? ⟨G, k, none⟩ := World.cell?_of_block (a := ⟨G, k, none⟩) (heap_alloc_old wr _ hbl)
            exact ((hB5.cell (by simp; omega)).trans h0).trans hc1
          have HI5 := hide ((HI.out.below (w' := wr.alloc (.cells #[.slice A' x.length c'] 23)) (by go_grown)).below hB5)
          have hl5 : G < w5.heap.size := by have := hB5.size; simp at this; omega
          cases dn with
          | false =>
            go_wp2_with fail
            go_roundw
            case rel => exact ⟨k + 1, s + y, false, hlt, by go_num, by go_num, rfl, by omega, by omega, HG1, hide (by rw [HD1.out]; simp), hd5⟩
            case measure => simp [intOf]; omega
          | true =>
            go_wp2_with fail
            refine (implTicketDone_any _ _ _ _ HI5.out hxl HTP5.out).mono ?_
            rintro e w6 ⟨rfl, hB6⟩
            have hd6 := next hd5 hB6
            go_wp2_with fail
            go_roundw
            case rel => exact ⟨k + 1, s + y, doneL x, hlt, by go_num, by go_num, rfl, by omega, by omega, HG1, hide (by rw [HD1.out]; simp), hd6⟩
            case measure => simp [intOf]; omega
        · have hz2 : ¬ (k : Int) < l.length := by omega
          have hsq : s = q := by rw [HK.out, HG.out, List.drop_of_length_le (by omega), leftK]; omega
          subst hsq
          have hdn : dn = (s == 0) := by
            have h1 := HD.out
            rw [List.drop_of_length_le (by omega)] at h1
            have h2 := HDN.out
            rw [← HK.out, h1] at h2
            by_cases h0 : s = 0
            · subst h0
              have := h2.1 rfl
              simp [allDone] at this
              simp [this]
            · have h3 : (s == 0) = false := beq_false_of_ne h0
              rw [h3]
              cases dn with
              | false => rfl
              | true => exact absurd (h2.2 (by simp [allDone])) h0
          subst hdn
          have hss : (s == s) = true := by simp
          have hdd : ((s == 0) == (s == 0)) = true := by simp
          go_wp2_with fail
          go_ret
          exact ⟨rfl, hb⟩
end Go.Proofs.YthmpopdoihlfdaaDoor
