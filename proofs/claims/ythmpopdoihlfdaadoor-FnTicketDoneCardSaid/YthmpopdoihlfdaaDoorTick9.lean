/- The reference model's WorkStep.
   Conditions: lists have at most 1048576 elements. -/
import Derived.Test.YthmpopdoihlfdaaDoorTick8
namespace Go.Proofs.YthmpopdoihlfdaaDoor
open Go.RowKit Go.ChangeShapes Go.WideShapes Go.ChangeAt Go.Deep

theorem TickSl.empty_lit (w : World) {lo : Nat} (hlo : lo ≤ w.heap.size) : TickSl (w.alloc (.cells #[] 23)) lo (.slice (some ⟨w.heap.size, 0, none⟩) 0 0) [] :=
  ⟨[], World.ownsRow_lit w #[] 0 hlo (by unfold maxLen; omega) rfl, fun i x hx => by simp at hx, fun i j u u' k _ hu => by simp at hu⟩
theorem TickSl.ltAll {w : World} {lo : Nat} {v : Value} {rows : List (List Order)} (h : TickSl w lo v rows) : ∀ j, v.ownBlock = some j → lo ≤ j ∧ j < w.heap.size := fun j hj => by
  obtain ⟨vs, h1, _⟩ := h
  exact h1.lt j hj

set_option maxHeartbeats 2000000 in
theorem l4Copy_any (A : Option Addr) (c : Nat) (l : List (List Order)) (w : World) (hA : TicksAt w A l) (hl : l.length ≤ 1048576) (hp : ∀ x ∈ l, x.length ≤ 1048576) :
    Calls Tryd.prog 68 #[.slice A l.length c] w fun e w' => ∃ u, e = .returned u ∧ TickSl w' w.heap.size u l ∧ Below w.heap.size w w' := by
  have HP := hide hp
  have HO := hide (TickSl.empty_lit w (Nat.le_refl _))
  have hba : Below w.heap.size w (w.alloc (.cells #[] 23)) := by go_grown
  clear hp
  go_enter Tryd.func68, Tryd.ntmps68
  go_wp2_with fail
  go_loopw [3, 4] (fun ov i wr => ∃ k : Nat, k ≤ l.length ∧ i = .int .i64 k ∧ TickSl wr w.heap.size ov (l.take k) ∧ Below w.heap.size w wr) (fun _ i _ => l.length - (intOf i).toNat)
  case atStart => exact ⟨0, Nat.zero_le _, rfl, HO.out, hba⟩
  case round =>
    clear HO hba
    obtain ⟨k, hk, rfl, hS, hb⟩ := hrel
    have hsz := hb.size
    by_cases hlt : k < l.length
    · obtain ⟨b, off, A', c', rfl, hbl, hc1, hI⟩ := (hA.below hb) k l[k] (List.getElem?_eq_getElem hlt)
      have HT : Hid (l.take (k + 1) = l.take k ++ [l[k]]) := hide (List.take_succ_eq_append_getElem hlt)
      have hx : l[k].length ≤ 1048576 := HP.out _ (List.getElem_mem hlt)
      generalize l[k] = x at *
      have hrl : (l.take k).length ≤ 1048576 := by rw [List.length_take]; omega
      have hz : (0 : Int) ≤ k := by omega
      have hz2 : (k : Int) < l.length := by omega
      have HS := hide hS
      have HLO := hide hS.ltAll
      have HE0 : Hid (OrderSl (wr.alloc (.cells #[] 28)) wr.heap.size (.slice (some ⟨wr.heap.size, 0, none⟩) 0 0) []) := hide (World.ownsRow_lit wr #[] 0 (Nat.le_refl _) (by unfold maxLen; omega) rfl)
      have HI := hide (hI.below (w' := wr.alloc (.cells #[] 28)) (by go_grown))
      have hba : Below wr.heap.size wr (wr.alloc (.cells #[] 28)) := by go_grown
      clear hS hI
      go_wp2_with (first
        | (at_builtin; refine wpList_spread_tick rfl _ _ rfl wr.heap.size (.slice (some ⟨wr.heap.size, 0, none⟩) 0 0) [] rfl HE0.out A' c' x rfl HI.out (by simp; omega) (by simp) ?_; intro A2 cap w2 hown hgrow; have hb2 : Below wr.heap.size wr w2 := hba.grown hgrow (by simp) (by intro j hj; simp [Value.ownBlock] at hj; omega); simp only [List.length_nil, Nat.zero_add, List.nil_append] at hown ⊢; have HVW : Hid (OrderSl (w2.alloc (.cells #[.slice A2 x.length cap] 23)) wr.heap.size (.slice A2 x.length cap) x) := hide (World.ownsRow.alloc hown _); have HBW : Hid (Below wr.heap.size wr (w2.alloc (.cells #[.slice A2 x.length cap] 23))) := hide (hb2.alloc hb2.size _); have hb3 : Below w.heap.size w w2 := next hb hb2; have hsz3 := hb3.size; clear hown hgrow hba HE0 HI hb2)
        | (at_builtin; refine wpList_push_tick rfl _ _ rfl w.heap.size u3 _ rfl HS.out HBW.out hsz w2.heap.size (.slice A2 x.length cap) x HVW.out rfl (heap_alloc_new w2 _) hrl ?_; intro gg cap2 w5 hown5 hgrow5))
      have HN5 : Hid (TickSl w5 w.heap.size (.slice (some ⟨gg, 0, none⟩) (k + 1) cap2) (l.take (k + 1))) := hide (by
        have hlk : (l.take k).length = k := by rw [List.length_take]; omega
        rw [hlk] at hown5
        rw [HT.out]
        exact hown5)
      have hb5 : Below w.heap.size w w5 := (hb3.alloc hsz3 _).grown hgrow5 (by simp; omega) (fun j hj => (HLO.out j hj).1)
      clear hown5 hgrow5 HS HVW HBW HLO
      go_wp2_with fail
      go_roundw
      case rel => exact ⟨k + 1, hlt, by go_num, HN5.out, hb5⟩
      case measure => simp [intOf]; omega
    · have HE : Hid (TickSl wr w.heap.size u3 l) := hide (by
        rw [List.take_of_length_le (by omega)] at hS
        exact hS)
      have hz2 : ¬ (k : Int) < l.length := by omega
      clear hS
      go_wp2_with fail
      refine bodyPost_ret (results_tmp rfl _ _ _) rfl ⟨u3, rfl, HE.out, hb⟩

theorem step_hit {l : List (List Order)} (h : kitchenOkL l = true) {e a j : Nat} (he : e = 1 ∨ e = 2) (hp : e = 1 → firstK 2 0 l = none) (hf : firstK (e : Int) 0 l = some (a, j)) : workStepL l = (putK l a j ((e : Int) + 1), true) := by
  unfold workStepL
  rw [if_pos h]
  rcases he with rfl | rfl
  · rw [hp rfl]
    have hf' : firstK 1 0 l = some (a, j) := hf
    rw [hf']
    rfl
  · have hf' : firstK 2 0 l = some (a, j) := hf
    rw [hf']
    rfl
theorem step_off {l : List (List Order)} (h : kitchenOkL l = true) (h2 : firstK 2 0 l = none) (h1 : firstK 1 0 l = none) (hn : nextGo 0 l = (-1, -1)) : workStepL l = (l, false) := by
  unfold workStepL
  rw [if_pos h, h2, h1, hn]
  rfl
theorem step_fire {l : List (List Order)} (h : kitchenOkL l = true) (h2 : firstK 2 0 l = none) (h1 : firstK 1 0 l = none) {a i : Nat} (hn : nextGo 0 l = ((a : Int), (i : Int))) : workStepL l = (putK l a i 1, true) := by
  unfold workStepL
  rw [if_pos h, h2, h1, hn]
  simp only [Int.toNat_natCast]
  rw [if_neg (by omega)]

set_option maxRecDepth 100000 in
set_option maxHeartbeats 4000000 in
theorem specWorkStep_any (A : Option Addr) (c : Nat) (l : List (List Order)) (w : World) (hA : TicksAt w A l) (hl : l.length ≤ 1048576) (hp : ∀ x ∈ l, x.length ≤ 1048576) :
    Calls Tryd.prog 45 #[.slice A l.length c] w fun e w' => ∃ u, e = .returned (.tuple #[u, .bool (workStepL l).2]) ∧ TickSl w' w.heap.size u (workStepL l).1 ∧ Below w.heap.size w w' := by
  have HP := hide hp
  clear hp
  cases hv : kitchenOkL l with
  | false =>
    have HV := hide hv
    have HR : Hid (workStepL l = ([], false)) := hide (by unfold workStepL; rw [hv]; rfl)
    clear hv
    rw [HR.out]
    go_enter Tryd.func45, Tryd.ntmps45
    go_wp2_with fail
    refine (specKitchenValid_any _ _ _ _ hA hl HP.out).mono ?_
    rintro e w1 ⟨rfl, hB1⟩
    rw [HV.out]
    have HE := hide (TickSl.empty_lit w1 hB1.size)
    have hsz1 := hB1.size
    go_wp2_with fail
    refine bodyPost_ret (results_tmp2 rfl _ _ _) rfl ⟨_, rfl, HE.out, by go_grown⟩
  | true =>
    have HV := hide hv
    have h4 := kitchenOk_len hv
    have HNX := hide (nextGo_spec l 0)
    have HNF := hide (nextFire_ok hv)
    clear hv
    go_enter Tryd.func45, Tryd.ntmps45
    go_wp2_with fail
    refine (specKitchenValid_any _ _ _ _ hA hl HP.out).mono ?_
    rintro e w1 ⟨rfl, hB1⟩
    rw [HV.out]
    go_wp2_with fail
    refine (l4Copy_any _ _ _ _ (hA.below hB1) hl HP.out).mono ?_
    rintro e w2 ⟨ov, rfl, hS, hB2⟩
    have hb2 := next hB1 hB2
    have HS2 := hide (hS.mono hB1.size)
    obtain ⟨oA, oc, rfl, -⟩ := hS.form
    clear hS
    go_wp2_with fail
    go_loopw [5] (fun ev wr => ∃ e : Nat, ev = .int .i64 e ∧ e ≤ 2 ∧ Hid (e ≤ 1 → firstK 2 0 l = none) ∧ Hid (e = 0 → firstK 1 0 l = none) ∧ TickSl wr w.heap.size (.slice oA l.length oc) l ∧ Below w.heap.size w wr) (fun ev _ => (intOf ev).toNat)
    case atStart => exact ⟨2, rfl, by omega, hide (fun h => absurd h (by omega)), hide (fun h => absurd h (by omega)), HS2.out, hb2⟩
    case round =>
      clear HS2 hb2
      obtain ⟨ev, rfl, he2, HF2, HF1, hS, hb⟩ := hrel
      have hsz := hb.size
      have HS := hide hS
      clear hS
      by_cases hev : 1 ≤ ev
      · have hz : (1 : Int) ≤ ev := by omega
        have hzz : (ev : Int) ≥ 1 := by omega
        have HEV : Hid (ev = 1 ∨ ev = 2) := hide (by omega)
        go_wp2_with fail
        go_loopw [6] (fun kv wr2 => ∃ k : Nat, kv = .int .i64 k ∧ k ≤ l.length ∧ Hid (firstK (ev : Int) 0 l = firstK (ev : Int) k (l.drop k)) ∧ TickSl wr2 w.heap.size (.slice oA l.length oc) l ∧ Below w.heap.size w wr2) (fun kv _ => l.length - (intOf kv).toNat)
        case atStart => exact ⟨0, rfl, Nat.zero_le _, hide rfl, HS.out, hb⟩
        case round =>
          clear HS hb hsz
          obtain ⟨k, rfl, hk, HG, hS, hb⟩ := hrel
          have hsz := hb.size
          have HS := hide hS
          clear hS
          by_cases hlt : k < l.length
          · have HD : Hid (l.drop k = l[k] :: l.drop (k + 1)) := hide (List.drop_eq_getElem_cons hlt)
            have hat := List.getElem?_eq_getElem hlt
            have hok := kitchenOk_at HV.out (List.getElem_mem hlt)
            have hx : l[k].length ≤ 1048576 := HP.out _ (List.getElem_mem hlt)
            generalize l[k] = x at *
            have HX := hide hat
            have HOK := hide hok
            obtain ⟨bk, offk, Ak, ck, hAk, hblk, hck, hIk⟩ := (hA.below hb) k x hat
            have hz2 : (0 : Int) ≤ k := by omega
            have hz3 : (k : Int) < l.length := by omega
            clear hat hok
            subst hAk
            go_wp2_with fail
            go_loopw [7] (fun jv wr3 => ∃ j : Nat, jv = .int .i64 j ∧ j ≤ x.length ∧ Hid (firstGo (ev : Int) 0 x = firstGo (ev : Int) j (x.drop j)) ∧ TickSl wr3 w.heap.size (.slice oA l.length oc) l ∧ Below w.heap.size w wr3) (fun jv _ => x.length - (intOf jv).toNat)
            case atStart => exact ⟨0, rfl, Nat.zero_le _, hide rfl, HS.out, hb⟩
            case round =>
              clear HS hb hsz hIk hck hblk
              obtain ⟨j, rfl, hj, HJ, hS, hb⟩ := hrel
              have hsz := hb.size
              have HS := hide hS
              have HLO := hide hS.ltAll
              clear hS
              obtain ⟨bk', offk', Ak', ck', hAk', hblk, hck, hIk⟩ := (hA.below hb) k x HX.out
              injection hAk' with hAk'
              injection hAk' with e1 e2
              subst e1 e2
              by_cases hjlt : j < x.length
              · have HDJ : Hid (x.drop j = x[j] :: x.drop (j + 1)) := hide (List.drop_eq_getElem_cons hjlt)
                have hjat := List.getElem?_eq_getElem hjlt
                generalize x[j] = p at *
                have HDO := hide (do_state HOK.out hjlt (e := (ev : Int)) (by have := HEV.out; omega))
                have HGD := hide (getD_at hjat)
                have hz4 : (0 : Int) ≤ j := by omega
                have hz5 : (j : Int) < x.length := by omega
                clear hjat
                by_cases hst : p.state = (ev : Int)
                · have HD2 : Hid (ticketDoL x j ev = (turned x j ((ev : Int) + 1), true)) := hide (by rw [HDO.out, HGD.out, if_pos hst])
                  have H3 : Hid (workStepL l = (putK l k j ((ev : Int) + 1), true)) := hide (step_hit HV.out HEV.out (fun h => HF2.out (by omega)) (by rw [HG.out, HD.out, firstK_hit (by rw [HJ.out, HDJ.out]; exact firstGo_hit hst)]))
                  clear hst
                  go_wp2_with fail
                  refine (specTicketDo_any _ _ _ _ _ _ hIk hx).mono ?_
                  rintro e w5 ⟨u, rfl, hU, hB5⟩
                  rw [HD2.out] at hU ⊢
                  obtain ⟨A6, c6, rfl, -⟩ := OrderSl.form hU
                  have hb5 := next hb hB5
                  have HS5 := hide (HS.out.below hB5)
                  have HPK : Hid (l.set k (turned x j ((ev : Int) + 1)) = putK l k j ((ev : Int) + 1)) := hide (by unfold putK; rw [getD_row HX.out])
                  have hog : ∃ g, oA = some ⟨g, 0, none⟩ := by
                    obtain ⟨vs, h1, _⟩ := HS.out
                    exact ownsRow_head h1 (by omega)
                  obtain ⟨g, rfl⟩ := hog
                  obtain ⟨u0, hq1⟩ := HS5.out.cell k hlt
                  have hf1 := HS5.out.frozen k
                  have hglt := (HLO.out g rfl)
                  have hlt5 := HS5.out.lt
                  have HN : Hid (TickSl (w5.setCell ⟨g, k, none⟩ (.slice A6 (turned x j ((ev : Int) + 1)).length c6)) w.heap.size (.slice (some ⟨g, 0, none⟩) l.length oc) (putK l k j ((ev : Int) + 1))) := hide (by
                    rw [← HPK.out]
                    exact HS.out.store hB5 hsz hU k hlt)
                  have hbs : Below w.heap.size w (w5.setCell ⟨g, k, none⟩ (.slice A6 (turned x j ((ev : Int) + 1)).length c6)) := by go_grown
                  have HBS := hide hbs
                  clear hU hbs
                  go_wp2_with fail
                  refine bodyPost_ret (results_tmp2 rfl _ _ _) rfl ⟨_, by rw [H3.out]; rfl, by rw [H3.out]; exact HN.out, HBS.out⟩
                · have HD2 : Hid (ticketDoL x j ev = (x, false)) := hide (by rw [HDO.out, HGD.out, if_neg hst])
                  have H3 : Hid (firstGo (ev : Int) 0 x = firstGo (ev : Int) (j + 1) (x.drop (j + 1))) := hide (by rw [HJ.out, HDJ.out]; exact firstGo_miss hst)
                  clear hst
                  go_wp2_with fail
                  refine (specTicketDo_any _ _ _ _ _ _ hIk hx).mono ?_
                  rintro e w5 ⟨u, rfl, -, hB5⟩
                  rw [HD2.out]
                  have hb5 := next hb hB5
                  have HS5 := hide (HS.out.below hB5)
                  go_wp2_with fail
                  go_roundw
                  case rel => exact ⟨j + 1, by go_num, hjlt, H3, HS5.out, hb5⟩
                  case measure => simp [intOf]; omega
              · have H3 : Hid (firstK (ev : Int) 0 l = firstK (ev : Int) (k + 1) (l.drop (k + 1))) := hide (by rw [HG.out, HD.out, firstK_miss (by rw [HJ.out, List.drop_of_length_le (by omega), firstGo])])
                have hz5 : ¬ (j : Int) < x.length := by omega
                go_wp2_with fail
                go_roundw
                case rel => exact ⟨k + 1, by go_num, hlt, H3, HS.out, hb⟩
                case measure => simp [intOf]; omega
          · have H3 : Hid (firstK (ev : Int) 0 l = none) := hide (by rw [HG.out, List.drop_of_length_le (by omega), firstK])
            have hz3 : ¬ (k : Int) < l.length := by omega
            go_wp2_with fail
            go_roundw
            case rel => exact ⟨ev - 1, by go_num, by omega, hide (fun h => by
              rcases HEV.out with h1 | h1
              · exact HF2.out (by omega)
              · have := H3.out; rw [h1] at this; exact this), hide (fun h => by
              have h1 : ev = 1 := by omega
              have := H3.out
              rw [h1] at this
              exact this), HS.out, hb⟩
            case measure => simp [intOf]; omega
      · have hev0 : ev = 0 := by omega
        subst hev0
        have HK2 := hide (HF2.out (by omega))
        have HK1 := hide (HF1.out rfl)
        clear HF1 HF2
        rcases HNX.out with hn | ⟨a, i, hn, ha, hm⟩
        · have HN := hide (show nextFireL l = (-1, -1) by rw [HNF.out]; exact hn)
          have HR := hide (step_off HV.out HK2.out HK1.out hn)
          clear hn
          have HA := hide (hA.below hb)
          go_wp2_with fail
          refine (specNextFire_any _ _ _ _ HA.out hl HP.out).mono ?_
          rintro e w3 ⟨rfl, hB3⟩
          rw [HN.out]
          have hb3 := next hb hB3
          have HS3 := hide (HS.out.below hB3)
          go_wp2_with fail
          refine bodyPost_ret (results_tmp2 rfl _ _ _) rfl ⟨_, by rw [HR.out]; rfl, by rw [HR.out]; exact HS3.out, hb3⟩
        · rw [Nat.zero_add] at hn
          have HN := hide (show nextFireL l = ((a : Int), (i : Int)) by rw [HNF.out]; exact hn)
          have HR := hide (step_fire HV.out HK2.out HK1.out hn)
          obtain ⟨x, hax⟩ : ∃ x, l[a]? = some x := ⟨_, List.getElem?_eq_getElem ha⟩
          have hx : x.length ≤ 1048576 := HP.out _ (List.mem_of_getElem? hax)
          rw [getD_row hax] at hm
          have HDO := hide (do_fire hm).1
          have HPK : Hid (l.set a (turned x i 1) = putK l a i 1) := hide (by unfold putK; rw [getD_row hax])
          have HX := hide hax
          clear hn hm hax
          have HA := hide (hA.below hb)
          have hz : (0 : Int) ≤ a := by omega
          have hz2 : (a : Int) < l.length := by omega
          go_wp2_with fail
          refine (specNextFire_any _ _ _ _ HA.out hl HP.out).mono ?_
          rintro e w3 ⟨rfl, hB3⟩
          rw [HN.out]
          have hb3 := next hb hB3
          have HS3 := hide (HS.out.below hB3)
          have hsz3 := hb3.size
          obtain ⟨bk, offk, Ak, ck, rfl, hblk, hck, hIk⟩ := (hA.below hb3) a x HX.out
          go_wp2_with fail
          refine (specTicketDo_any _ _ _ _ _ _ hIk hx).mono ?_
          rintro e w5 ⟨u, rfl, hU, hB5⟩
          rw [HDO.out] at hU ⊢
          obtain ⟨A6, c6, rfl, -⟩ := OrderSl.form hU
          have hb5 := next hb3 hB5
          have HS5 := hide (HS3.out.below hB5)
          have hog : ∃ g, oA = some ⟨g, 0, none⟩ := by
            obtain ⟨vs, h1, _⟩ := HS3.out
            exact ownsRow_head h1 (by omega)
          obtain ⟨g, rfl⟩ := hog
          obtain ⟨u0, hq1⟩ := HS5.out.cell a ha
          have hf1 := HS5.out.frozen a
          have hglt := (HS3.out.ltAll g rfl)
          have hlt5 := HS5.out.lt
          have HN2 : Hid (TickSl (w5.setCell ⟨g, a, none⟩ (.slice A6 (turned x i 1).length c6)) w.heap.size (.slice (some ⟨g, 0, none⟩) l.length oc) (putK l a i 1)) := hide (by
            rw [← HPK.out]
            exact HS3.out.store hB5 hsz3 hU a ha)
          have hbs : Below w.heap.size w (w5.setCell ⟨g, a, none⟩ (.slice A6 (turned x i 1).length c6)) := by go_grown
          have HBS := hide hbs
          clear hU hbs
          go_wp2_with fail
          refine bodyPost_ret (results_tmp2 rfl _ _ _) rfl ⟨_, by rw [HR.out]; rfl, by rw [HR.out]; exact HN2.out, HBS.out⟩
end Go.Proofs.YthmpopdoihlfdaaDoor
