/- copyTicket and TicketDo: contracts of the program and of the reference model.
   Conditions: lists have at most 1048576 elements; the two tables hold what the source says. -/
import Derived.Test.YteocmjffjinphaaDoorTick2
import Derived.Test.YteocmjffjinphaaDoorOTables
import Derived.Test.YteocmjffjinphaaDoorTab
namespace Go.Proofs.YteocmjffjinphaaDoor
open Go.RowKit Go.ChangeShapes Go.WideShapes Go.ChangeAt Go.Deep

theorem orderCells_turned (b : Int) : ∀ (ls : List Order) (i : Nat), i < ls.length → (orderCells ls).set (i * 2 + 1) (.int .i64 b) = orderCells (turned ls i b)
  | [], i, h => by simp at h
  | q :: r, 0, _ => rfl
  | q :: r, i + 1, h => by
    have ih := orderCells_turned b r i (by simpa using h)
    have e : turned (q :: r) (i + 1) b = q :: turned r i b := by simp [turned]
    rw [e, orderCells_cons, orderCells_cons, ← ih, show (i + 1) * 2 + 1 = i * 2 + 1 + 1 + 1 from by omega]
    rfl
theorem OrderSl.turn {w : World} {lo g n cap : Nat} {ls : List Order} (h : OrderSl w lo (.slice (some ⟨g, 0, none⟩) n cap) ls) (i : Nat) (hi : i < ls.length) (b : Int) :
    OrderSl (w.setCell ⟨g, i * 2 + 1, none⟩ (.int .i64 b)) lo (.slice (some ⟨g, 0, none⟩) n cap) (turned ls i b) := by
  obtain ⟨A, c, e, _⟩ := h.form
  injection e with e1 e2 e3
  subst e2
  have := (World.ownsRow.stored h (i * 2 + 1) (.int .i64 b)).1
  unfold OrderSl
  rw [← orderCells_turned b ls i hi, turned_len]
  exact this
theorem OrderSl.block {w : World} {lo n c : Nat} {A : Option Addr} {ls : List Order} (h : OrderSl w lo (.slice A n c) ls) (hn : 0 < ls.length) : ∃ g, A = some ⟨g, 0, none⟩ ∧ lo ≤ g ∧ g < w.heap.size := by
  have hlt := World.ownsRow.lt h
  rcases h.2 with ⟨hv, h0⟩ | ⟨g, cap, cur, hv, _⟩
  · omega
  · injection hv with e1 e2 e3
    subst e1
    exact ⟨g, rfl, hlt g rfl⟩

set_option maxHeartbeats 400000 in
theorem l4Next_any (s v : Int) (w : World) :
    Calls Tryd.prog 107 #[.int .i64 s, .int .i64 v] w fun e w' => e = .returned (.int .i64 (nxt s v)) ∧ w' = w := by
  by_cases h0 : v = 0
  · subst h0
    by_cases h : s = 0
    · subst h
      go_enter Tryd.func107, Tryd.ntmps107
      go_wp2_with fail
      go_ret
      exact ⟨rfl, rfl⟩
    · have e0 : (s == 0) = false := by simp [h]
      have HR : Hid (nxt s 0 = -1) := hide (by unfold nxt; rw [if_neg (by omega), if_neg (by omega), if_neg (by omega), if_neg (by omega)])
      go_enter Tryd.func107, Tryd.ntmps107
      go_wp2_with fail
      go_ret
      exact ⟨by rw [HR.out]; rfl, rfl⟩
  · have f0 : (v == 0) = false := by simp [h0]
    by_cases h1 : v = 1
    · subst h1
      by_cases h : s = 1
      · subst h
        go_enter Tryd.func107, Tryd.ntmps107
        go_wp2_with fail
        go_ret
        exact ⟨rfl, rfl⟩
      · have e0 : (s == 1) = false := by simp [h]
        have HR : Hid (nxt s 1 = -1) := hide (by unfold nxt; rw [if_neg (by omega), if_neg (by omega), if_neg (by omega), if_neg (by omega)])
        go_enter Tryd.func107, Tryd.ntmps107
        go_wp2_with fail
        go_ret
        exact ⟨by rw [HR.out]; rfl, rfl⟩
    · have f1 : (v == 1) = false := by simp [h1]
      by_cases h2 : v = 2
      · subst h2
        by_cases h : s = 2
        · subst h
          go_enter Tryd.func107, Tryd.ntmps107
          go_wp2_with fail
          go_ret
          exact ⟨rfl, rfl⟩
        · have e0 : (s == 2) = false := by simp [h]
          have HR : Hid (nxt s 2 = -1) := hide (by unfold nxt; rw [if_neg (by omega), if_neg (by omega), if_neg (by omega), if_neg (by omega)])
          go_enter Tryd.func107, Tryd.ntmps107
          go_wp2_with fail
          go_ret
          exact ⟨by rw [HR.out]; rfl, rfl⟩
      · have f2 : (v == 2) = false := by simp [h2]
        by_cases h3 : v = 3
        · subst h3
          by_cases h : s < 3
          · have hd : decide (s < 3) = true := decide_eq_true h
            have HR : Hid (nxt s 3 = 4) := hide (by unfold nxt; rw [if_neg (by omega), if_neg (by omega), if_neg (by omega), if_pos ⟨rfl, h⟩])
            go_enter Tryd.func107, Tryd.ntmps107
            go_wp2_with fail
            go_ret
            exact ⟨by rw [HR.out]; rfl, rfl⟩
          · have hd : decide (s < 3) = false := decide_eq_false h
            have HR : Hid (nxt s 3 = -1) := hide (by unfold nxt; rw [if_neg (by omega), if_neg (by omega), if_neg (by omega), if_neg (by omega)])
            go_enter Tryd.func107, Tryd.ntmps107
            go_wp2_with fail
            go_ret
            exact ⟨by rw [HR.out]; rfl, rfl⟩
        · have f3 : (v == 3) = false := by simp [h3]
          have HR : Hid (nxt s v = -1) := hide (by unfold nxt; rw [if_neg (by omega), if_neg (by omega), if_neg (by omega), if_neg (by omega)])
          go_enter Tryd.func107, Tryd.ntmps107
          go_wp2_with fail
          go_ret
          exact ⟨by rw [HR.out]; rfl, rfl⟩

theorem getD_at {ls : List Order} {i : Nat} {p : Order} (h : ls[i]? = some p) : ls.getD i ⟨0, 0⟩ = p := by rw [List.getD_eq_getElem?_getD, h]; rfl

set_option maxRecDepth 100000 in
set_option maxHeartbeats 2000000 in
theorem specTicketDo_any (A : Option Addr) (c : Nat) (ls : List Order) (i v : Int) (w : World) (hA : OrdersAt w A ls) (hl : ls.length ≤ 1048576) :
    Calls Tryd.prog 97 #[.slice A ls.length c, .int .i64 i, .int .i64 v] w fun e w' => ∃ u, e = .returned (.tuple #[u, .bool (ticketDoL ls i v).2]) ∧ OrderSl w' w.heap.size u (ticketDoL ls i v).1 ∧ Below w.heap.size w w' := by
  cases hv : ticketOkL ls with
  | false =>
    have HV := hide hv
    have HR := hide (ticketDo_bad (i := i) (e := v) hv)
    clear hv
    rw [HR.out]
    go_enter Tryd.func97, Tryd.ntmps97
    go_wp2_with fail
    refine (specTicketValid_any _ _ _ _ hA hl).mono ?_
    rintro e w1 ⟨rfl, hB1⟩
    rw [HV.out]
    have hsz1 := hB1.size
    have HS : Hid (OrderSl (w1.alloc (.cells #[] 58)) w.heap.size (.slice (some ⟨w1.heap.size, 0, none⟩) 0 0) []) := hide (World.ownsRow_lit w1 #[] 0 hsz1 (by unfold maxLen; omega) rfl)
    go_wp2_with fail
    refine bodyPost_ret (results_tmp2 rfl _ _ _) rfl ⟨_, rfl, HS.out, by go_grown⟩
  | true =>
    have HV := hide hv
    have h6 := ticketOk_len hv
    have HIN := hide (ticketOk_in hv)
    go_enter Tryd.func97, Tryd.ntmps97
    go_wp2_with fail
    refine (specTicketValid_any _ _ _ _ hA hl).mono ?_
    rintro e w1 ⟨rfl, hB1⟩
    rw [HV.out]
    have hsz1 := hB1.size
    have HS0 : Hid (OrderSl (w1.alloc (.cells #[] 58)) w.heap.size (.slice (some ⟨w1.heap.size, 0, none⟩) 0 0) []) := hide (World.ownsRow_lit w1 #[] 0 hsz1 (by unfold maxLen; omega) rfl)
    have HA1 := hide ((hA.below hB1).below (w' := w1.alloc (.cells #[] 58)) (by go_grown))
    have hba : Below w.heap.size w (w1.alloc (.cells #[] 58)) := by go_grown
    go_wp2_with (at_builtin; refine wpList_spread_tick rfl _ _ rfl w.heap.size (.slice (some ⟨w1.heap.size, 0, none⟩) 0 0) [] rfl HS0.out A c ls rfl HA1.out (by simp; omega) (by simp; omega) ?_; intro A2 cap w2 hown hgrow)
    have hb2 : Below w.heap.size w w2 := hba.grown hgrow (by simp; omega) (by intro k hk; simp [Value.ownBlock] at hk; omega)
    simp only [List.length_nil, Nat.zero_add, List.nil_append] at hown
    have hS2 : OrderSl w2 w.heap.size (.slice A2 ls.length cap) ls := by simpa using hown
    clear hown hgrow hba
    cases h1 : inR i 0 ((ls.length : Int) - 1) with
    | false =>
      have H1 := hide h1
      have HR := hide (ticketDo_off (e := v) hv h1)
      clear hv h1
      have HS2 := hide hS2
      clear hS2
      go_wp2_with fail
      refine (l1In_is _ _ _ _ H1 _).mono ?_
      rintro e w' ⟨rfl, rfl⟩
      go_wp2_with fail
      refine bodyPost_ret (results_tmp2 rfl _ _ _) rfl ⟨_, by rw [HR.out]; rfl, by rw [HR.out]; exact HS2.out, hb2⟩
    | true =>
      have H1 := hide h1
      obtain ⟨k, rfl⟩ : ∃ k : Nat, i = k := ⟨i.toNat, by have := inR_iff.1 h1; omega⟩
      have hk : k < ls.length := by have := inR_iff.1 h1; omega
      obtain ⟨p, hp⟩ : ∃ p, ls[k]? = some p := ⟨_, List.getElem?_eq_getElem hk⟩
      have HP := hide hp
      have hgd : (ls.getD k ⟨0, 0⟩) = p := getD_at hp
      have HN : Hid (nxt (ls.getD (k : Int).toNat ⟨0, 0⟩).state v = nxt p.state v) := hide (by rw [Int.toNat_natCast, hgd])
      have HRno : Hid (nxt p.state v < 0 → ticketDoL ls (k : Int) v = (ls, false)) := hide (fun h => ticketDo_no hv (by rw [HN.out]; exact h))
      have HRnot : Hid (ticketOkL (turned ls k (nxt p.state v)) = false → ticketDoL ls (k : Int) v = (ls, false)) := hide (fun h => ticketDo_not hv (by rw [HN.out, Int.toNat_natCast]; exact h))
      have HRyes : Hid (¬ nxt p.state v < 0 → ticketOkL (turned ls k (nxt p.state v)) = true → ticketDoL ls (k : Int) v = (turned ls k (nxt p.state v), true)) := hide (fun h h' => by
        have := ticketDo_yes hv h1 (by rw [HN.out]; exact h) (by rw [HN.out, Int.toNat_natCast]; exact h')
        rw [HN.out, Int.toNat_natCast] at this
        exact this)
      have hz : (0 : Int) ≤ k := by omega
      have hz2 : (k : Int) < ls.length := by omega
      clear hv h1 hp hgd HN
      obtain ⟨b, off, rfl, hbl, hc1, hc2⟩ := (hA.below hb2) k p HP.out
      have HS2 := hide hS2
      obtain ⟨g, rfl, hg1, hg2⟩ := OrderSl.block hS2 (by omega)
      obtain ⟨t, HT⟩ : ∃ t, Hid (nxt p.state v = t) := ⟨_, hide rfl⟩
      rw [HT.out] at HRno HRnot HRyes
      have hnr : t = -1 ∨ (1 ≤ t ∧ t ≤ 4) := by rw [← HT.out]; exact nxt_range _ _
      have hf := fun j => World.ownsRow.frozenAt hS2 j
      have hI2 : OrdersAt w2 (some ⟨g, 0, none⟩) ls := OrderSl.orders hS2
      obtain ⟨b', off', e', -, hd1, hd2⟩ := hI2 k p HP.out
      injection e' with e'
      injection e' with e1 e2
      subst e1 e2
      rw [Nat.zero_add] at hd1 hd2
      have HTU := hide (OrderSl.turn hS2 k hk t)
      have hbs : Below w.heap.size w (w2.setCell ⟨g, k * 2 + 1, none⟩ (.int .i64 t)) := by go_grown
      have HBS := hide hbs
      have HCV : Hid (Calls Tryd.prog 59 #[.slice (some ⟨g, 0, none⟩) ls.length cap] (w2.setCell ⟨g, k * 2 + 1, none⟩ (.int .i64 t)) fun e w' => e = .returned (.bool (ticketOkL (turned ls k t))) ∧ Below (w2.setCell ⟨g, k * 2 + 1, none⟩ (.int .i64 t)).heap.size (w2.setCell ⟨g, k * 2 + 1, none⟩ (.int .i64 t)) w') := hide (by
        have := specTicketValid_any (some ⟨g, 0, none⟩) cap (turned ls k t) _ (OrderSl.orders HTU.out) (by rw [turned_len]; exact hl)
        rwa [turned_len] at this)
      clear hbs hI2 hS2
      go_wp2_with fail
      refine (l1In_is _ _ _ _ H1 _).mono ?_
      rintro e w' ⟨rfl, rfl⟩
      go_wp2_with fail
      refine (l4Next_any _ _ _).mono ?_
      rintro e w' ⟨rfl, rfl⟩
      rw [HT.out]
      by_cases hn : t < 0
      · have HR := hide (HRno.out (by omega))
        go_wp2_with fail
        refine bodyPost_ret (results_tmp2 rfl _ _ _) rfl ⟨_, by rw [HR.out]; rfl, by rw [HR.out]; exact HS2.out, hb2⟩
      · have HLEN := hide (turned_len ls k t)
        cases hok : ticketOkL (turned ls k t) with
        | false =>
          have HO := hide hok
          have HR := hide (HRnot.out hok)
          clear hok
          have HAS := hide (hA.below HBS.out)
          go_wp2_with fail
          refine HCV.out.mono ?_
          rintro e w4 ⟨rfl, hB4⟩
          rw [HO.out]
          have hb4 := next HBS.out hB4
          have hsz4 := hb4.size
          have HS4 : Hid (OrderSl (w4.alloc (.cells #[] 58)) w.heap.size (.slice (some ⟨w4.heap.size, 0, none⟩) 0 0) []) := hide (World.ownsRow_lit w4 #[] 0 hsz4 (by unfold maxLen; omega) rfl)
          have HA4 := hide ((HAS.out.below hB4).below (w' := w4.alloc (.cells #[] 58)) (by go_grown))
          have hba4 : Below w.heap.size w (w4.alloc (.cells #[] 58)) := by go_grown
          go_wp2_with (at_builtin; refine wpList_spread_tick rfl _ _ rfl w.heap.size (.slice (some ⟨w4.heap.size, 0, none⟩) 0 0) [] rfl HS4.out (some ⟨b, off, none⟩) c ls rfl HA4.out (by simp; omega) (by simp; omega) ?_; intro A6 cap6 w6 hown hgrow)
          have hb6 : Below w.heap.size w w6 := hba4.grown hgrow (by simp; omega) (by intro k hk; simp [Value.ownBlock] at hk; omega)
          simp only [List.length_nil, Nat.zero_add, List.nil_append] at hown
          clear hgrow hba4
          have HOW := hide hown
          clear hown
          go_wp2_with fail
          refine bodyPost_ret (results_tmp2 rfl _ _ _) rfl ⟨_, by rw [HR.out]; rfl, by rw [HR.out]; exact HOW.out, hb6⟩
        | true =>
          have HO := hide hok
          have HR := hide (HRyes.out (by omega) hok)
          clear hok
          go_wp2_with fail
          refine HCV.out.mono ?_
          rintro e w4 ⟨rfl, hB4⟩
          rw [HO.out]
          have hb4 := next HBS.out hB4
          have HS4 := hide (HTU.out.below hB4)
          go_wp2_with fail
          refine bodyPost_ret (results_tmp2 rfl _ _ _) rfl ⟨_, by rw [HR.out]; rfl, by rw [HR.out]; exact HS4.out, hb4⟩
end Go.Proofs.YteocmjffjinphaaDoor
