/- For all drawn bytes the law of TicketNew answers true, and its argument reads as it did.
   Conditions: piecesLeft holds what the source says. -/
import Derived.Test.YthmpopdoihlfdaaDoorDrawTickK
import Derived.Test.YthmpopdoihlfdaaDoorAlive
import Derived.Test.YthmpopdoihlfdaaDoorTick3
import Derived.Test.YthmpopdoihlfdaaDoorTickMath2
import Derived.Test.YthmpopdoihlfdaaDoorSame2
namespace Go.Proofs.YthmpopdoihlfdaaDoor
open Go.RowKit Go.ChangeShapes Go.WideShapes Go.ChangeAt Go.Deep

theorem newL_some {xs : List Int} (h : 0 < (ticketNewL xs).length) : ticketNewL xs = xs.map newOrder ∧ ticketOkL (ticketNewL xs) = true ∧ doneL (ticketNewL xs) = false := by
  have hc : coursesOk xs = true := by
    cases hc : coursesOk xs with
    | true => rfl
    | false => unfold ticketNewL at h; rw [hc] at h; simp at h
  have he : ticketNewL xs = xs.map newOrder := by unfold ticketNewL; rw [hc]; rfl
  have hc2 := hc
  unfold coursesOk at hc2
  rw [Bool.and_eq_true, decide_eq_true_eq] at hc2
  have hr : ∀ n ∈ xs, 0 ≤ n ∧ n ≤ 2 := by
    have := hc2.2
    unfold rangeOk at this
    exact fun n hn => inR_iff.1 (List.all_eq_true.1 this n hn)
  have hall : ∀ o ∈ xs.map newOrder, (0 ≤ o.course ∧ o.course ≤ 2) ∧ o.state = 0 := by
    intro o ho
    obtain ⟨n, hn, rfl⟩ := List.mem_map.1 ho
    exact ⟨hr n hn, rfl⟩
  have hok : ticketOkL (xs.map newOrder) = true := plain_ok (by rw [List.length_map]; exact hc2.1) hall
  refine ⟨he, by rw [he]; exact hok, ?_⟩
  rw [he] at h ⊢
  cases hd : doneL (xs.map newOrder) with
  | false => rfl
  | true =>
    have h1 := (doneL_iff hok).1 hd
    obtain ⟨o, ho⟩ : ∃ o, o ∈ xs.map newOrder := ⟨_, List.getElem_mem h⟩
    have h2 := h1 o ho
    unfold openO at h2
    rw [(hall o ho).2] at h2
    cases h2

/-- Drawn courses. -/
def DrawnCourses (w : World) (e : Ending) (w' : World) : Prop := ∃ (xs : List Int) (A : Option Addr) (c : Nat), e = .returned (.slice A xs.length c) ∧ IntsAt w' A xs ∧ xs.length ≤ 7 ∧ Below w.heap.size w w'

set_option maxRecDepth 100000 in
set_option maxHeartbeats 2000000 in
theorem drawTicketNew_any (A : Option Addr) (c m : Nat) (w : World) (hB : BytesIn w A m) (hm : m ≤ 9223372036854775807) (hc : m ≤ c) (hc2 : c ≤ 9223372036854775807) :
    Calls Tryd.prog 18 #[.slice A m c] w (DrawnCourses w) := by
  go_enter Tryd.func18, Tryd.ntmps18
  go_wp2_with fail
  refine (open_any A c m w hB hm hc hc2).mono ?_
  rintro e w0 ⟨rfl, hR0, hb0⟩
  have hz0 := hb0.size
  have hblt := hR0.lt
  have HO : Hid (IntSl (w0.alloc (.cells #[] 3)) w0.heap.size (.slice (some ⟨w0.heap.size, 0, none⟩) 0 0) []) := hide (World.ownsRow_lit w0 #[] 0 (Nat.le_refl _) (by unfold maxLen; omega) rfl)
  have HRA : Hid (Rd (w0.alloc (.cells #[] 3)) w.heap.size 0) := hide (hR0.kept (fun j hj => heap_alloc_old w0 _ (by omega)))
  have HGA : Hid (w0.grownBy (w0.alloc (.cells #[] 3)) (some w.heap.size)) := hide (World.grownBy_alloc w0 _ _)
  go_wp2_with fail
  refine (pick_any w.heap.size 0 8 _ HRA.out (by omega) (by omega)).mono ?_
  rintro e w1 ⟨q, rfl, hq0, hq1, hR1, hgw1⟩
  have HS1 : Hid (IntSl w1 w0.heap.size (.slice (some ⟨w0.heap.size, 0, none⟩) 0 0) []) := hide (row_pickR HO.out hblt hgw1)
  have HG1 : Hid (w0.grownBy w1 (some w.heap.size)) := hide (HGA.out.trans hgw1)
  have HR1 := hide hR1
  have hq6 : q ≤ 7 := by omega
  clear hgw1 hR1 HO HRA HGA hR0
  go_wp2_with fail
  go_loopw [4, 5] (fun v i wr => ∃ (j : Nat) (l : List Int) (L g c : Nat), j ≤ 7 ∧ i = .int .i64 j ∧ L + j ≤ 7 ∧ v = .slice (some ⟨g, 0, none⟩) L c ∧ IntSl wr w0.heap.size (.slice (some ⟨g, 0, none⟩) L c) l ∧ Rd wr w.heap.size (1 + 2 * L) ∧ w0.grownBy wr (some w.heap.size)) (fun _ i _ => (intOf i).toNat)
  case atStart => exact ⟨q.toNat, [], 0, w0.heap.size, 0, by omega, by rw [Int.toNat_of_nonneg hq0], by omega, rfl, HS1.out, HR1.out.mono (by omega), HG1.out⟩
  case round =>
    clear HS1 HG1 HR1
    obtain ⟨j, l, L, g, c, hj, rfl, hlj, rfl, hS, hRr, hgr⟩ := hrel
    have HLL : Hid (l.length = L) := hide hS.capR.1
    have hlL : l.length ≤ L := Nat.le_of_eq HLL.out
    have HS := hide hS
    have HGR := hide hgr
    have hzr := hgr.size
    clear hS hgr
    by_cases hj0 : 0 < j
    · have hjz : (0 : Int) < j := by omega
      go_wp2_with fail
      refine (pick_any w.heap.size _ 3 _ hRr (by omega) (by omega)).mono ?_
      rintro e w2 ⟨q2, rfl, hq20, hq21, hR2, hg2⟩
      have HS2 := hide (row_pickR HS.out hblt hg2)
      have HG2 := hide (HGR.out.trans hg2)
      have hq22 : q2 ≤ 2 := by omega
      clear hg2
      go_wp2_with fail
      refine (pick_any w.heap.size _ 30 _ hR2 (by omega) (by omega)).mono ?_
      rintro e w3 ⟨q3, rfl, hq30, hq31, hR3, hg3⟩
      have HS3 := hide (row_pickR HS2.out hblt hg3)
      have HG3 := hide (HG2.out.trans hg3)
      have HLO := hide (World.ownsRow.lt HS3.out)
      have hz3 := HG3.out.size
      have HR3 := hide hR3
      have hq32 : q3 ≤ 29 := by omega
      have hq33 : 0 ≤ q3 / 29 ∧ q3 / 29 ≤ 1 := by omega
      obtain ⟨hq34, hq35⟩ := hq33
      clear hg3 hR3 hR2
      go_wp2_with (at_builtin; refine wpList_wantedR (by rfl) (wp_push_intR _ _ (by rfl) w0.heap.size (.slice (some ⟨g, 0, none⟩) L c) l (by rfl) (World.ownsRow.alloc HS3.out _) w3.heap.size (q2 + q3 / 29 * 3) (by rfl) (heap_alloc_new w3 _) (by omega) (by simp; omega) ?_); intro g' cap w4 hown hgrow; have HOW := hide (And.intro hown (And.intro (rd_grownR (HR3.out.kept (fun j hj => heap_alloc_old w3 _ (by have := HR3.out.lt; omega))) hgrow (fun k hk => by have := (HLO.out k hk).1; omega)) (grown_rowR (HG3.out.trans (World.grownBy_alloc w3 _ _)) hgrow (fun k hk => (HLO.out k hk).1)))); clear hown hgrow)
      go_roundw
      case rel =>
        obtain ⟨j', rfl⟩ : ∃ j', j = j' + 1 := ⟨j - 1, by omega⟩
        exact ⟨j', l ++ [q2 + q3 / 29 * 3], l.length + 1, g', cap, by omega, by go_num, by omega, by rfl, HOW.out.1, HOW.out.2.1.mono (by rw [HLL.out]; omega), HOW.out.2.2⟩
      case measure => simp [intOf]; omega
    · obtain rfl : j = 0 := by omega
      have hL7 : L ≤ 7 := by omega
      have HI : Hid (IntsAt wr (some ⟨g, 0, none⟩) l) := hide (IntSl.ints HS.out)
      have HB : Hid (Below w.heap.size w wr) := hide (hb0.grown HGR.out hz0 (fun j hj => by injection hj with hj; omega))
      go_wp2_with fail
      refine bodyPost_ret (results_tmp rfl _ _ _) rfl ⟨l, some ⟨g, 0, none⟩, c, by rw [HLL.out]; rfl, HI.out, by rw [HLL.out]; omega, HB.out⟩

set_option maxRecDepth 100000 in
set_option maxHeartbeats 4000000 in
theorem lawTicketNew_any (A : Option Addr) (c m : Nat) (w : World) (hB : BytesIn w A m) (hc : m ≤ c) (hc2 : c ≤ 9223372036854775807) (hTP : PiecesAt w) :
    Calls Tryd.prog 4 #[.slice A m c] w fun e w' => e = .returned (.bool true) ∧ Below w.heap.size w w' := by
  by_cases hlen : (1048576 : Int) < m
  · go_enter Tryd.func4, Tryd.ntmps4
    go_wp2_with fail
    go_ret
    exact ⟨rfl, by go_grown⟩
  · go_enter Tryd.func4, Tryd.ntmps4
    go_wp2_with fail
    refine (drawTicketNew_any A c m w hB (by omega) hc hc2).mono ?_
    rintro e w1 ⟨xs, D, d, rfl, hT, hx7, hb1⟩
    have HI1 := hide hT
    have hxl : xs.length ≤ 1048576 := by omega
    have htl : (ticketNewL xs).length ≤ 1048576 := Nat.le_trans (ticketNewL_len xs) hxl
    obtain ⟨t, HT⟩ : ∃ t, Hid (ticketNewL xs = t) := ⟨_, hide rfl⟩
    rw [HT.out] at htl
    clear hT
    go_wp2_with fail
    refine (implTicketNew_any _ _ _ _ HI1.out hxl).mono ?_
    rintro e w2 ⟨u, rfl, hU, hB2⟩
    rw [HT.out] at hU
    obtain ⟨A2, c2, rfl, hT2⟩ := OrderSl.form hU
    have hb2 := next hb1 hB2
    have HI2 := hide (HI1.out.below hB2)
    have HT2 := hide hT2
    clear hU hT2
    go_wp2_with fail
    refine (specTicketNew_any _ _ _ _ HI2.out hxl).mono ?_
    rintro e w3 ⟨u, rfl, hU, hB3⟩
    rw [HT.out] at hU
    obtain ⟨A3, c3, rfl, hT3⟩ := OrderSl.form hU
    have hb3 := next hb2 hB3
    have HI3 := hide (HI2.out.below hB3)
    have HT23 := hide (HT2.out.below hB3)
    have HT3 := hide hT3
    clear hU hT3
    go_wp2_with fail
    refine (sameTicket_same _ _ _ _ _ _ HT23.out HT3.out htl).mono ?_
    rintro e w4 ⟨rfl, hB4⟩
    have hb4 := next hb3 hB4
    have HI4 := hide (HI3.out.below hB4)
    have HT4 := hide (HT23.out.below hB4)
    clear hB2 hB3 hB4 HI1 HI2 HI3 HT2 HT23 HT3
    by_cases ht0 : t.length = 0
    · have hz : ((t.length : Int) == 0) = true := by rw [ht0]; rfl
      clear ht0
      go_wp2_with fail
      refine (alive_any _).mono ?_
      rintro e w5 ⟨rfl, hB5⟩
      have hb5 := next hb4 hB5
      go_wp2_with fail
      go_ret
      exact ⟨rfl, hb5⟩
    · have hz : ((t.length : Int) == 0) = false := beq_false_of_ne (by omega)
      obtain ⟨hm1, hok, hnd⟩ := newL_some (xs := xs) (by rw [HT.out]; omega)
      rw [HT.out] at hm1 hok hnd
      have HM := hide hm1
      have HOK := hide hok
      have HND := hide hnd
      have hlx : t.length = xs.length := by rw [hm1, List.length_map]
      have HLX := hide hlx
      have hle : ((t.length : Int) == (xs.length : Int)) = true := by rw [hlx]; simp
      clear ht0 hm1 hok hnd hlx
      go_wp2_with fail
      go_loopw [5] (fun iv wr => ∃ k : Nat, k ≤ t.length ∧ iv = .int .i64 k ∧ Below w4.heap.size w4 wr) (fun iv _ => t.length - (intOf iv).toNat)
      case atStart => exact ⟨0, Nat.zero_le _, rfl, Below.refl _ _⟩
      case round =>
        obtain ⟨k, hk, rfl, hd⟩ := hrel
        have hb := next hb4 hd
        have hsz := hd.size
        by_cases hlt : k < t.length
        · have hlt2 : k < xs.length := by rw [← HLX.out]; exact hlt
          obtain ⟨b, off, rfl, hbl, hc1, hc3⟩ := (HT4.out.below hd) k t[k] (List.getElem?_eq_getElem hlt)
          obtain ⟨b2, off2, rfl, hbl2, hd1⟩ := (HI4.out.below hd) k xs[k] (List.getElem?_eq_getElem hlt2)
          have hp : t[k] = ⟨xs[k], 0⟩ := by
            have h1 : t[k]? = some (newOrder xs[k]) := by rw [HM.out, List.getElem?_map, List.getElem?_eq_getElem hlt2]; rfl
            rw [List.getElem?_eq_getElem hlt] at h1
            exact Option.some.inj h1
          rw [hp] at hc1 hc3
          generalize xs[k] = x at *
          clear hp
          have hq1 : wr.cell? ⟨b, off + k * 2, none⟩ = some (.int .i64 x) := hc1
          have hq2 : wr.cell? ⟨b, off + k * 2 + 1, none⟩ = some (.int .i64 0) := hc3
          clear hc1 hc3
          have hy : (0 : Int) ≤ k := by omega
          have hy2 : (k : Int) < t.length := by omega
          have hy3 : (k : Int) < xs.length := by omega
          have hxx : (x != x) = false := by simp
          go_wp2_with fail
          go_quiet (fail)
          go_wp2_with fail
          go_roundw
          case rel => exact ⟨k + 1, hlt, by go_num, below_drewN hd _⟩
          case measure => simp [intOf]; omega
        · have hy2 : ¬ (k : Int) < t.length := by omega
          have HT5 := hide (HT4.out.below hd)
          have HTP5 := hide (hTP.below hb)
          go_wp2_with fail
          refine (implTicketValid_any _ _ _ _ HT5.out htl HTP5.out).mono ?_
          rintro e w6 ⟨rfl, hB6⟩
          rw [HOK.out]
          have hb6 := next hb hB6
          have HT6 := hide (HT5.out.below hB6)
          have HTP6 := hide (hTP.below hb6)
          go_wp2_with fail
          refine (implTicketDone_any _ _ _ _ HT6.out htl HTP6.out).mono ?_
          rintro e w7 ⟨rfl, hB7⟩
          rw [HND.out]
          have hb7 := next hb6 hB7
          go_wp2_with fail
          go_ret
          exact ⟨rfl, hb7⟩
end Go.Proofs.YthmpopdoihlfdaaDoor
