/- For all drawn bytes the law of TicketValid answers true, and its argument reads as it did.
   Conditions: piecesLeft holds what the source says. -/
import Derived.Test.YteocmjffjinphaaDoorDrawTickK
import Derived.Test.YteocmjffjinphaaDoorAlive
import Derived.Test.YteocmjffjinphaaDoorTick2
import Derived.Test.YteocmjffjinphaaDoorTickMath2
namespace Go.Proofs.YteocmjffjinphaaDoor
open Go.RowKit Go.ChangeShapes Go.WideShapes Go.ChangeAt Go.Deep

def plainO (o : Order) : Order := ⟨o.course, 0⟩
theorem plain_all {t : List Order} (h : ticketOkL t = true) : ticketOkL (t.map plainO) = true := plain_ok (by rw [List.length_map]; exact ticketOk_len h) (fun o ho => by
  obtain ⟨p, hp, rfl⟩ := List.mem_map.1 ho
  exact ⟨(orderIn_iff.1 (ticketOk_in h p hp)).1, rfl⟩)
theorem less_at {t : List Order} {k : Nat} (h : ticketOkL t = true) (hk : k < t.length) : ticketOkL (t.take k ++ t.drop (k + 1)) = true := by
  have e : t = t.take k ++ t[k] :: t.drop (k + 1) := by rw [← List.drop_eq_getElem_cons hk, List.take_append_drop]
  rw [e] at h
  exact less_ok h

set_option maxRecDepth 100000 in
theorem slices_at {w : World} {lo d k : Nat} {D : Option Addr} {t : List Order} (h : OrderSl w lo (.slice D t.length d) t) (hk : k < t.length) : ∃ (D2 : Option Addr) (d2 : Nat),
    (∀ W, (Instr.slice 54 (.slice D t.length d) none (some (.int .i64 (k : Int))) none).run Tryd.prog W = .ok (.slice D k d) W) ∧ (∀ W, (Instr.sliceAt 54 (.slice D t.length d) none (some (.int .i64 (k : Int))) none).run Tryd.prog W = .ok (.slice D k d) W) ∧
    (∀ W, (Instr.slice 54 (.slice D t.length d) (some (.int .i64 ((k : Int) + 1))) none none).run Tryd.prog W = .ok (.slice D2 (t.length - (k + 1)) d2) W) ∧ (∀ W, (Instr.sliceAt 54 (.slice D t.length d) (some (.int .i64 ((k : Int) + 1))) none none).run Tryd.prog W = .ok (.slice D2 (t.length - (k + 1)) d2) W) ∧
    (∀ W, OrdersAt W D t → OrdersAt W D2 (t.drop (k + 1))) := by
  have ht : Tryd.prog.underlying 54 = some (.slice (Tryd.prog.elem 54)) := rfl
  have hz : ∀ W, (sizeOf (Tryd.prog.elem 54)).run Tryd.prog W = .ok 2 W := fun W => by rfl
  rcases OrderSl.two h with ⟨-, hv⟩ | ⟨g, c8, hv⟩
  · rw [hv] at hk; simp at hk
  · injection hv with h1 h2 h3
    subst h1 h3
    have hcap := OrderSl.capR h
    have hd := hcap.2.1
    have e1 : ∀ W, (Instr.slice 54 (.slice (some ⟨g, 0, none⟩) t.length d) none (some (.int .i64 (k : Int))) none).run Tryd.prog W = .ok (.slice (some ⟨g, 0, none⟩) k d) W := fun W => by
      rw [run_slice_h W _ _ _ _ ht .i64 k (by omega) (by omega), hz]
      simp [Result.andThen, sliced, Addr.add]
    by_cases hdk : d = k + 1
    · have e2 : ∀ W, (Instr.slice 54 (.slice (some ⟨g, 0, none⟩) t.length d) (some (.int .i64 ((k : Int) + 1))) none none).run Tryd.prog W = .ok (.slice (some ⟨g, 0, none⟩) (t.length - (k + 1)) 0) W := fun W => by
        rw [run_slice_l W _ _ _ _ ht .i64 ((k : Int) + 1) (by omega) (by omega), hz]
        have : ((k : Int) + 1).toNat = k + 1 := by omega
        simp [Result.andThen, sliced, this, hdk]
      refine ⟨some ⟨g, 0, none⟩, 0, e1, fun W => (run_sliceAt_slice W _ _ _ _ _ ht).trans (e1 W), e2, fun W => (run_sliceAt_slice W _ _ _ _ _ ht).trans (e2 W), fun W _ => ?_⟩
      rw [List.drop_of_length_le (by omega)]
      exact OrdersAt.nilR _ _
    · have e2 : ∀ W, (Instr.slice 54 (.slice (some ⟨g, 0, none⟩) t.length d) (some (.int .i64 ((k : Int) + 1))) none none).run Tryd.prog W = .ok (.slice (some ⟨g, (k + 1) * 2, none⟩) (t.length - (k + 1)) (d - (k + 1))) W := fun W => by
        rw [run_slice_l W _ _ _ _ ht .i64 ((k : Int) + 1) (by omega) (by omega), hz]
        have : ((k : Int) + 1).toNat = k + 1 := by omega
        simp [Result.andThen, sliced, this, hdk, Addr.add]
      refine ⟨some ⟨g, (k + 1) * 2, none⟩, d - (k + 1), e1, fun W => (run_sliceAt_slice W _ _ _ _ _ ht).trans (e1 W), e2, fun W => (run_sliceAt_slice W _ _ _ _ _ ht).trans (e2 W), fun W hW => ?_⟩
      intro i p hp
      rw [List.getElem?_drop] at hp
      obtain ⟨b, o, e, hlt, h1, h2⟩ := hW (k + 1 + i) p hp
      injection e with e
      injection e with e1 e2
      subst e1 e2
      refine ⟨g, (k + 1) * 2, rfl, hlt, ?_, ?_⟩
      · rw [show (k + 1) * 2 + i * 2 = 0 + (k + 1 + i) * 2 from by omega]; exact h1
      · rw [show (k + 1) * 2 + i * 2 + 1 = 0 + (k + 1 + i) * 2 + 1 from by omega]; exact h2
theorem take_more {t : List Order} {k : Nat} (h : k < t.length) : t.take (k + 1) = t.take k ++ [t[k]] := by
  rw [List.take_add_one, List.getElem?_eq_getElem h]
  rfl
theorem OrdersAt.takeR {w : World} {A : Option Addr} {t : List Order} {k : Nat} (h : OrdersAt w A t) : OrdersAt w A (t.take k) := by
  intro i p hp
  rw [List.getElem?_take] at hp
  split at hp
  · exact h i p hp
  · cases hp
theorem step_spread_tickW {W : World} {ops : Array Oper} {o : Oper} {a : Act} {K : Act → World → Prop} {Q : Exit → Act → World → Prop} {E : Prop} (hw : Region.wanted o (yielded ops a.tmps) = true) (s x : Operand)
    (ho : o.op = .call { callee := .builtin .append, args := #[s, x], argTypes := #[54, 54] }) (lo : Nat) (v : Value) (ls : List Order) (hs : a.eval s = v) (hown : OrderSl W lo v ls)
    (D : Option Addr) (m c : Nat) (xs : List Order) (hm : xs.length = m) (hx : a.eval x = .slice D m c) (hA : OrdersAt W D xs) (hn : ls.length + m ≤ 1048576) (hlo : lo ≤ W.heap.size)
    (h : ∀ A cap w', OrderSl w' lo (.slice A (ls.length + m) cap) (ls ++ xs) → W.grownBy w' v.ownBlock → K (a.put o.dst (.slice A (ls.length + m) cap)) w') :
    if Region.wanted o (yielded ops a.tmps) = true then Oper.wp Tryd.prog o a W K Q else E := by
  subst hm
  rw [if_pos hw]
  exact wp_spread_tick s x ho lo v ls hs hown D c xs hx hA hn hlo h

set_option maxHeartbeats 1000000 in
theorem drawTicketValid_any (A : Option Addr) (c m : Nat) (w : World) (hB : BytesIn w A m) (hm : m ≤ 9223372036854775807) (hc : m ≤ c) (hc2 : c ≤ 9223372036854775807) :
    Calls Tryd.prog 57 #[.slice A m c] w (DrawnTick w) := by
  go_enter Tryd.func57, Tryd.ntmps57
  go_wp2_with fail
  refine (open_any A c m w hB hm hc hc2).mono ?_
  rintro e w1 ⟨rfl, hR1, hb1⟩
  have hz1 := hb1.size
  go_wp2_with fail
  refine (l20Ticket_any w.heap.size 0 2 _ hR1 (by omega) (by omega)).mono ?_
  rintro e w2 ⟨ls, A2, c2, rfl, hS2, hl7, hR2, hg2⟩
  have hb2 : Below w.heap.size w w2 := hb1.grown hg2 hz1 (fun j hj => by injection hj with hj; omega)
  have HS2 := hide (ownsRow_mono hS2 hz1)
  clear hg2 hS2
  go_wp2_with fail
  refine bodyPost_ret (results_tmp rfl _ _ _) rfl ⟨ls, A2, c2, rfl, HS2.out, hl7, hb2⟩

set_option maxRecDepth 100000 in
set_option maxHeartbeats 8000000 in
theorem lawTicketValid_any (A : Option Addr) (c m : Nat) (w : World) (hB : BytesIn w A m) (hc : m ≤ c) (hc2 : c ≤ 9223372036854775807) (hTP : PiecesAt w) :
    Calls Tryd.prog 15 #[.slice A m c] w fun e w' => e = .returned (.bool true) ∧ Below w.heap.size w w' := by
  by_cases hlen : (1048576 : Int) < m
  · go_enter Tryd.func15, Tryd.ntmps15
    go_wp2_with fail
    go_ret
    exact ⟨rfl, by go_grown⟩
  · go_enter Tryd.func15, Tryd.ntmps15
    go_wp2_with fail
    refine (drawTicketValid_any A c m w hB (by omega) hc hc2).mono ?_
    rintro e w1 ⟨t, D, d, rfl, hS, h7, hb1⟩
    have HSL := hide (fun k hk => slices_at (k := k) hS hk)
    have HT1 := hide hS.orders
    have htl : t.length ≤ 1048576 := by omega
    clear hS
    have HTP1 := hide (hTP.below hb1)
    obtain ⟨ok, HK⟩ : ∃ ok, Hid (ticketOkL t = ok) := ⟨_, hide rfl⟩
    have hkk : (ok != ok) = false := by simp
    go_wp2_with fail
    refine (implTicketValid_any _ _ _ _ HT1.out htl HTP1.out).mono ?_
    rintro e w2 ⟨rfl, hB2⟩
    rw [HK.out]
    have hb2 := next hb1 hB2
    have HT2 := hide (HT1.out.below hB2)
    go_wp2_with fail
    refine (specTicketValid_any _ _ _ _ HT2.out htl).mono ?_
    rintro e w3 ⟨rfl, hB3⟩
    rw [HK.out]
    have hb3 := next hb2 hB3
    have HT3 := hide (HT2.out.below hB3)
    clear hB2 hB3 HT1 HT2 HTP1
    cases ok with
    | false =>
      go_wp2_with fail
      refine (alive_any _).mono ?_
      rintro e w5 ⟨rfl, hB5⟩
      have hb5 := next hb3 hB5
      go_wp2_with fail
      go_ret
      exact ⟨rfl, hb5⟩
    | true =>
      have HLESS := hide (fun k (hk : k < t.length) => less_at HK.out hk)
      have HPL := hide (plain_all HK.out)
      have HS0 : Hid (OrderSl (w3.alloc (.cells #[] 58)) w3.heap.size (.slice (some ⟨w3.heap.size, 0, none⟩) 0 0) []) := hide (World.ownsRow_lit w3 #[] 0 (Nat.le_refl _) (by unfold maxLen; omega) rfl)
      go_wp2_with fail
      go_loopw [5, 6] (fun pv iv wr => ∃ (k L g cc : Nat) (P : List Order), k ≤ t.length ∧ iv = .int .i64 k ∧ pv = .slice (some ⟨g, 0, none⟩) L cc ∧ Hid (L = k ∧ P = (t.take k).map plainO) ∧ OrderSl wr w3.heap.size (.slice (some ⟨g, 0, none⟩) L cc) P ∧ Below w3.heap.size w3 wr) (fun _ iv _ => t.length - (intOf iv).toNat)
      case atStart => exact ⟨0, 0, w3.heap.size, 0, [], Nat.zero_le _, rfl, rfl, hide ⟨rfl, rfl⟩, HS0.out, by go_grown⟩
      case round =>
        obtain ⟨k, L, g, cc, P, hk, rfl, rfl, HLK, hS, hd⟩ := hrel
        have HS := hide hS
        have hb := next hb3 hd
        have hsz := hd.size
        clear hS
        by_cases hlt : k < t.length
        · obtain ⟨D2, d2, hsl1, hsl2, hsl3, hsl4, hD2⟩ := HSL.out k hlt
          have HD2 := hide hD2
          obtain ⟨b, off, rfl, hbl, hc1, hc3⟩ := (HT3.out.below hd) k t[k] (List.getElem?_eq_getElem hlt)
          have HTK : Hid (P ++ [plainO t[k]] = (t.take (k + 1)).map plainO) := hide (by rw [take_more hlt, List.map_append, HLK.out.2]; rfl)
          have HPLn : Hid (P.length = k) := hide (by rw [HLK.out.2, List.length_map, List.length_take]; omega)
          have hPl : P.length ≤ 1048576 := by rw [HPLn.out]; omega
          obtain ⟨K1, hK1⟩ : ∃ K1 : Int, (k : Int) + 1 = K1 := ⟨_, rfl⟩
          rw [hK1] at hsl3 hsl4
          have hw1 : IntKind.i64.wrap K1 = K1 := IntWalk.i64_in _ (by omega)
          have HTKn : Hid ((t.take k).length = k) := hide (by rw [List.length_take]; omega)
          have HTDn : Hid ((t.drop (k + 1)).length = t.length - (k + 1)) := hide (List.length_drop ..)
          have HCV : Hid (∀ W A n c, OrdersAt W A (t.take k ++ t.drop (k + 1)) → n = (t.take k ++ t.drop (k + 1)).length → PiecesAt W → Calls Tryd.prog 58 #[.slice A n c] W fun e w' => e = .returned (.bool true) ∧ Below W.heap.size W w') := hide (fun W A n c hA hn hP => by
            subst hn
            have := implTicketValid_any A c _ W hA (by rw [List.length_append, HTKn.out, HTDn.out]; omega) hP
            rwa [HLESS.out k hlt] at this)
          have HLO := hide (World.ownsRow.lt HS.out)
          have hy : (0 : Int) ≤ k := by omega
          have hy2 : (k : Int) < t.length := by omega
          have HC := hide (And.intro hc1 hc3)
          generalize hp : t[k] = p at *
          clear hD2
          go_wp2_with (at_builtin; refine wpList_push_order (by rfl) _ _ (by rfl) w3.heap.size (.slice (some ⟨g, 0, none⟩) L cc) P (by rfl) (World.ownsRow.alloc HS.out _) wr.heap.size ⟨p.course, 0⟩ (by rfl) (heap_alloc_new wr _) hPl (by simp; omega) ?_; intro g' cap w5 hown hgrow; have HOW := hide hown; have HD5 : Hid (Below w3.heap.size w3 w5) := hide ((show Below w3.heap.size w3 (wr.alloc (.cells #[.int .i64 p.course, .int .i64 0] 58)) from by go_grown).grown hgrow (by simp; omega) (fun k hk => (HLO.out k hk).1)); clear hown hgrow)
          have hd5 := HD5.out
          have hb5 := next hb3 hd5
          have HT5 := hide (HT3.out.below hd5)
          have hsz5 := hd5.size
          have HTP5 := hide (hTP.below hb5)
          obtain ⟨b', off', hDD, hbl5, hq1, hq2⟩ := HT5.out k p (by rw [← hp]; exact List.getElem?_eq_getElem hlt)
          injection hDD with hDD
          injection hDD with e1 e2
          subst e1 e2
          by_cases h0 : p.state = 0
          · have g1 : (p.state == 0) = true := by rw [h0]; rfl
            have HE : Hid (OrderSl (w5.alloc (.cells #[] 58)).drew w5.heap.size (.slice (some ⟨w5.heap.size, 0, none⟩) 0 0) []) := hide (World.ownsRow_lit w5 #[] 0 (Nat.le_refl _) (by unfold maxLen; omega) rfl)
            have HTA : Hid (OrdersAt (w5.alloc (.cells #[] 58)).drew (some ⟨b, off, none⟩) (t.take k)) := hide (OrdersAt.takeR (HT5.out.below (by go_grown)))
            clear h0
            go_wp2_with fail
            go_region_held3 (fun W => W.cell? ⟨b, off + k * 2 + 1, none⟩ = some (.int .i64 p.state))
              (first | exact hq2 | exact (HB8.out.cell hbl5).trans hq2 | exact (HB7.out.cell hbl5).trans hq2 | exact (HB6.out.cell hbl5).trans hq2 | (refine (World.cell?_of_block (a := ⟨b, off + k * 2 + 1, none⟩) (heap_alloc_old w5 _ hbl5)).trans hq2) | go_keep)
              (first
              | (refine step_spread_tickW (by rfl) _ _ (by rfl) w5.heap.size (.slice (some ⟨w5.heap.size, 0, none⟩) 0 0) [] (by rfl) HE.out (some ⟨b, off, none⟩) k d (t.take k) HTKn.out (by rfl) HTA.out (by simp; omega) (by simp) ?_; intro AA cap6 w6 hown hgrow; have HB6 : Hid (Below w5.heap.size w5 w6) := hide ((show Below w5.heap.size w5 (w5.alloc (.cells #[] 58)).drew from by go_grown).grown hgrow (by simp) (fun k hk => by have hk : some w5.heap.size = some k := hk; injection hk with hk; omega)); have HO6 := hide hown; clear hown hgrow)
              | (refine step_spread_tickW (by rfl) _ _ (by rfl) w5.heap.size (.slice AA (([] : List Order).length + k) cap6) ([] ++ t.take k) (by rfl) HO6.out D2 (t.length - (k + 1)) d2 (t.drop (k + 1)) HTDn.out (by rfl) (HD2.out _ (HT5.out.below HB6.out)) (by simp; omega) HB6.out.size ?_; intro AB cap7 w7 hown hgrow; have HB7 : Hid (Below w5.heap.size w5 w7) := hide (HB6.out.grown hgrow HB6.out.size (fun k hk => (World.ownsRow.lt HO6.out k hk).1)); have HO7 := hide hown; clear hown hgrow)
              | (go_simp; go_at_call 58; refine (HCV.out _ _ _ _ (OrderSl.orders HO7.out) (by rw [List.length_append, HTKn.out, HTDn.out]) (hTP.below (next hb5 HB7.out))).mono ?_; rintro e w8 ⟨rfl, hB8⟩; have HB8 := hide (next HB7.out hB8); clear hB8))
            all_goals
              clear hK1
              go_wp2_with fail
              go_roundw
              case rel => exact ⟨k + 1, _, g', cap, _, hlt, by go_num, rfl, hide ⟨by rw [HPLn.out], HTK.out⟩, OrderSl.below HOW.out HB8.out, next hd5 HB8.out⟩
              case measure => simp [intOf]; omega
          · have g1 : (p.state == 0) = false := beq_false_of_ne h0
            clear h0 hK1
            go_wp2_with fail
            go_quiet (fail)
            go_wp2_with fail
            go_roundw
            case rel => exact ⟨k + 1, _, g', cap, _, hlt, by go_num, rfl, hide ⟨by rw [HPLn.out], HTK.out⟩, HOW.out, below_drewN hd5 _⟩
            case measure => simp [intOf]; omega
        · have hy2 : ¬ (k : Int) < t.length := by omega
          obtain rfl : k = t.length := by omega
          have HP : Hid (OrdersAt wr (some ⟨g, 0, none⟩) (t.map plainO)) := hide (by
            have := OrderSl.orders HS.out
            rwa [HLK.out.2, List.take_length] at this)
          have HTP5 := hide (hTP.below hb)
          have HCP : Hid (Calls Tryd.prog 58 #[.slice (some ⟨g, 0, none⟩) L cc] wr fun e w' => e = .returned (.bool true) ∧ Below wr.heap.size wr w') := hide (by
            have := implTicketValid_any (some ⟨g, 0, none⟩) cc (t.map plainO) wr HP.out (by rw [List.length_map]; omega) HTP5.out
            rwa [HPL.out, List.length_map, ← HLK.out.1] at this)
          go_wp2_with fail
          refine HCP.out.mono ?_
          rintro e w6 ⟨rfl, hB6⟩
          have hb6 := next hb hB6
          go_wp2_with fail
          go_ret
          exact ⟨rfl, hb6⟩
end Go.Proofs.YteocmjffjinphaaDoor
