/- Contracts of TakeFirst, of the program and of the reference model: both make one list of numbers, which the call owns.
   Conditions: lists have at most 1048576 elements. -/
import Derived.Test.YtndcanllkmfahaaDoorTakeDo
namespace Go.Proofs.YtndcanllkmfahaaDoor
open Go.RowKit

def nilLot : Lot := ⟨0, 0⟩

/-- One pass over the first k lots: what spoils on the day 'last' is taken. -/
def tfK (l : List Lot) (day last : Int) : Nat → (Nat → Int) × Int → (Nat → Int) × Int
  | 0, s => s
  | k + 1, s =>
    if (l.getD k nilLot).last = last then
      ((fun j => if j = k then min (tfK l day last k s).2 (usab (l.getD k nilLot) day) else (tfK l day last k s).1 j), (tfK l day last k s).2 - min (tfK l day last k s).2 (usab (l.getD k nilLot) day))
    else tfK l day last k s

/-- The passes of the first m days. -/
def tfL (l : List Lot) (day want : Int) : Nat → (Nat → Int) × Int
  | 0 => (fun _ => 0, want)
  | m + 1 => tfK l day m l.length (tfL l day want m)

def takeFirstL (l : List Lot) (day want : Int) : List Int := if (lotsOk l && inR want 0 50) = true then tab l.length (tfL l day want 6).1 else []

theorem takeFirstL_len (l : List Lot) (day want : Int) : (takeFirstL l day want).length ≤ l.length := by
  unfold takeFirstL
  split
  · rw [tab_len]; exact Nat.le_refl _
  · simp

theorem getD_ok {l : List Lot} (h : lotsOk l = true) (k : Nat) : 0 ≤ (l.getD k nilLot).many ∧ (l.getD k nilLot).many ≤ 9 ∧ 0 ≤ (l.getD k nilLot).last ∧ (l.getD k nilLot).last ≤ 5 := by
  by_cases hk : k < l.length
  · rw [show l.getD k nilLot = l[k] from by simp [hk]]
    exact lotsOk_at h (List.getElem_mem hk)
  · rw [show l.getD k nilLot = nilLot from by simp [hk]]
    decide

theorem tfK_range {l : List Lot} (h : lotsOk l = true) (day last : Int) : ∀ (k : Nat) (s : (Nat → Int) × Int), 0 ≤ s.2 → s.2 ≤ 50 → 0 ≤ (tfK l day last k s).2 ∧ (tfK l day last k s).2 ≤ 50
  | 0, s, h0, h1 => ⟨h0, h1⟩
  | k + 1, s, h0, h1 => by
    have ih := tfK_range h day last k s h0 h1
    have hu := usab_range (getD_ok h k) day
    unfold tfK
    split
    · show 0 ≤ (tfK l day last k s).2 - min (tfK l day last k s).2 (usab (l.getD k nilLot) day) ∧ (tfK l day last k s).2 - min (tfK l day last k s).2 (usab (l.getD k nilLot) day) ≤ 50
      omega
    · exact ih

theorem tfL_range {l : List Lot} (h : lotsOk l = true) (day want : Int) (h0 : 0 ≤ want) (h1 : want ≤ 50) : ∀ (m : Nat), 0 ≤ (tfL l day want m).2 ∧ (tfL l day want m).2 ≤ 50
  | 0 => ⟨h0, h1⟩
  | m + 1 => tfK_range h day m _ _ (tfL_range h day want h0 h1 m).1 (tfL_range h day want h0 h1 m).2

/-- Nothing is taken of what spoils before the day. -/
theorem tfK_idle {l : List Lot} (h : lotsOk l = true) {day last : Int} (hd : last < day) {want : Int} (hw : 0 ≤ want) : ∀ (k : Nat) (f : Nat → Int), (∀ j, f j = 0) → tfK l day last k (f, want) = (fun _ => 0, want)
  | 0, f, hf => by
    have : f = fun _ => 0 := funext hf
    rw [this]; rfl
  | k + 1, f, hf => by
    have ih := tfK_idle h hd hw k f hf
    unfold tfK
    rw [ih]
    split
    · rename_i hl
      have hu : usab (l.getD k nilLot) day = 0 := by unfold usab; rw [if_pos (by omega)]
      rw [hu, Int.min_eq_right hw]
      simp
    · rfl

theorem tfL_idle {l : List Lot} (h : lotsOk l = true) {day want : Int} (hw : 0 ≤ want) : ∀ (m : Nat), (m : Int) ≤ max day 0 → tfL l day want m = (fun _ => 0, want)
  | 0, _ => rfl
  | m + 1, hm => by
    unfold tfL
    rw [tfL_idle h hw m (by omega)]
    exact tfK_idle h (by omega) hw _ _ (fun _ => rfl)

theorem zeros_sl {w : World} {lo : Nat} (n : Nat) (hlo : lo ≤ w.heap.size) (hn : n ≤ 1048576) : IntSl (w.alloc (.cells (madeCells #[.int .i64 0] n) 3)) lo (.slice (some ⟨w.heap.size, 0, none⟩) n n) (tab n (fun _ => 0)) := by
  have h : OwnInts (w.alloc (.cells (madeCells #[.int .i64 0] n) 3)) w.heap.size (tab n (fun _ => 0)) := by
    unfold OwnInts
    rw [tab_len]
    exact (World.rowIs_made _ _ _ _).congr (fun i hi => by simp [tab, hi])
  have := h.sl hlo (by rw [tab_len]; exact hn)
  rw [tab_len] at this
  exact this

set_option maxRecDepth 100000 in
set_option maxHeartbeats 2000000 in
theorem implTakeFirst_any (A : Option Addr) (c : Nat) (l : List Lot) (day want : Int) (w : World) (hA : LotsAt w A l) (hl : l.length ≤ 1048576) :
    Calls Tryd.prog 55 #[.slice A l.length c, .int .i64 day, .int .i64 want] w fun e w' => ∃ v, e = .returned v ∧ IntSl w' w.heap.size v (takeFirstL l day want) ∧ Below w.heap.size w w' := by
  cases hI : lotsOk l with
  | false =>
    have HI := hide hI
    have HR : Hid (takeFirstL l day want = []) := by unfold takeFirstL; rw [hI]; exact hide rfl
    clear hI
    go_enter Tryd.func55, Tryd.ntmps55
    go_wp2_with fail
    refine (implLotsValid_any _ _ _ _ hA hl).mono ?_
    rintro e w1 ⟨rfl, hB1⟩
    rw [HI.out]
    go_wp2_with fail
    refine bodyPost_ret (results_tmp rfl _ _ _) rfl ⟨.slice none 0 0, rfl, by rw [HR.out]; exact World.ownsRow_nil _ _ _ _, hB1⟩
  | true =>
    have HI := hide hI
    have h5 := lotsOk_len hI
    cases hW : inR want 0 50 with
    | false =>
      have HW := hide hW
      have HR : Hid (takeFirstL l day want = []) := by unfold takeFirstL; rw [hI, hW]; exact hide rfl
      clear hI hW
      go_enter Tryd.func55, Tryd.ntmps55
      go_wp2_with fail
      refine (implLotsValid_any _ _ _ _ hA hl).mono ?_
      rintro e w1 ⟨rfl, hB1⟩
      rw [HI.out]
      go_wp2_with fail
      refine (inRange_is _ _ _ _ HW _).mono ?_
      rintro e w2 ⟨rfl, rfl⟩
      go_wp2_with fail
      refine bodyPost_ret (results_tmp rfl _ _ _) rfl ⟨.slice none 0 0, rfl, by rw [HR.out]; exact World.ownsRow_nil _ _ _ _, hB1⟩
    | true =>
      have HW := hide hW
      have hw01 := inR_iff.1 hW
      have HR : Hid (takeFirstL l day want = tab l.length (tfL l day want 6).1) := by unfold takeFirstL; rw [hI, hW]; exact hide rfl
      have HTR := hide (tfL_range hI day want hw01.1 hw01.2)
      have hmk := make_ints l.length hl
      clear hI hW hw01
      go_enter Tryd.func55, Tryd.ntmps55
      go_wp2_with fail
      refine (implLotsValid_any _ _ _ _ hA hl).mono ?_
      rintro e w1 ⟨rfl, hB1⟩
      rw [HI.out]
      have hsz1 := hB1.size
      go_wp2_with fail
      refine (inRange_is _ _ _ _ HW _).mono ?_
      rintro e w2 ⟨rfl, rfl⟩
      go_wp2_with fail
      clear hmk
      have HZ := hide (zeros_sl (w := w1) (lo := w.heap.size) l.length hsz1 hl)
      go_loopw [2, 22] (fun wv i wr => ∃ (m : Nat) (f : Nat → Int) (q : Int), m ≤ 6 ∧ i = .int .i64 m ∧ wv = .int .i64 q ∧ Hid (tfL l day want m = (f, q)) ∧ IntSl wr w.heap.size (.slice (some ⟨w1.heap.size, 0, none⟩) l.length l.length) (tab l.length f) ∧ Below w.heap.size w wr) (fun _ i _ => 6 - (intOf i).toNat)
      case atStart => exact ⟨0, _, _, by omega, rfl, rfl, hide rfl, HZ.out, by go_grown⟩
      case round =>
        clear HZ hB1
        obtain ⟨m, f, q, hm, rfl, rfl, HM, hS, hb⟩ := hrel
        have hsz := hb.size
        by_cases hm6 : m < 6
        · have hmz : (0 : Int) ≤ m := by omega
          have hmz2 : (m : Int) < 6 := by omega
          have HS := hide hS
          clear hS
          go_wp2_with fail
          obtain ⟨wo, rfl⟩ : ∃ wo : World, wo = wr := ⟨_, rfl⟩
          go_loopw [2, 27] (fun wv i wr => ∃ (k : Nat) (f : Nat → Int) (q : Int), k ≤ l.length ∧ i = .int .i64 k ∧ wv = .int .i64 q ∧ Hid (tfK l day m k (tfL l day want m) = (f, q)) ∧ IntSl wr w.heap.size (.slice (some ⟨w1.heap.size, 0, none⟩) l.length l.length) (tab l.length f) ∧ Below w.heap.size w wr) (fun _ i _ => l.length - (intOf i).toNat)
          case atStart => exact ⟨0, f, q, by omega, rfl, rfl, hide HM.out, HS.out, hb⟩
          case round =>
            clear HS HM hb hsz
            obtain ⟨k, f, q, hk, rfl, rfl, HK, hS, hb⟩ := hrel
            have hsz := hb.size
            by_cases hlt : k < l.length
            · obtain ⟨b, off, rfl, hbl, hc1, hc2⟩ := (hA.below hb) k l[k] (List.getElem?_eq_getElem hlt)
              have hx := lotsOk_at HI.out (List.getElem_mem hlt)
              have HX : Hid (l.getD k nilLot = l[k]) := hide (by simp [hlt])
              have hq : 0 ≤ q ∧ q ≤ 50 := by
                have := tfK_range HI.out day m k (tfL l day want m) (HTR.out m).1 (HTR.out m).2
                rw [HK.out] at this
                exact this
              obtain ⟨hq0, hq1⟩ := hq
              have hu := usab_range hx day
              generalize l[k] = x at *
              clear hx
              have hz : (0 : Int) ≤ k := by omega
              have hz2 : (k : Int) < l.length := by omega
              by_cases hL : x.last = m
              · have hLb : (x.last == (m : Int)) = true := by simp [hL]
                obtain ⟨u, HU⟩ : ∃ u, Hid (usab x day = u) := ⟨_, hide rfl⟩
                rw [HU.out] at hu
                obtain ⟨hu0, hu1⟩ := hu
                obtain ⟨t, HT⟩ : ∃ t, Hid (min q u = t) := ⟨_, hide rfl⟩
                have ht : 0 ≤ t ∧ t ≤ q ∧ t ≤ u := by rw [← HT.out]; omega
                obtain ⟨ht0, ht1, ht2⟩ := ht
                have hmin : (if u < q then u else q) = t := by rw [← HT.out]; split <;> omega
                have HK2 : Hid (tfK l day m (k + 1) (tfL l day want m) = ((fun j => if j = k then t else f j), q - t)) := hide (by
                  unfold tfK
                  rw [HX.out, if_pos hL, HK.out, HU.out, HT.out])
                have hcell : wr.cell? ⟨w1.heap.size, k, none⟩ = some (.int .i64 (f k)) := hS.cellAt (tab_at hlt)
                have hfz := hS.frozenAt k
                have hglt := (World.ownsRow.lt hS w1.heap.size rfl).2
                have HNX : Hid (∀ W, Below wr.heap.size wr W → IntSl (W.setCell ⟨w1.heap.size, k, none⟩ (.int .i64 t)) w.heap.size (.slice (some ⟨w1.heap.size, 0, none⟩) l.length l.length) (tab l.length (fun j => if j = k then t else f j))) := hide (fun W hB => by
                  rw [← tab_set]
                  exact IntSl.store (hS.below hB) k t)
                clear hS hL
                go_wp2_with fail
                refine (usable_any _ _ _).mono ?_
                rintro e w3 ⟨rfl, hB3⟩
                rw [HU.out]
                have hB3' : Below wr.heap.size wr w3 := Below.trans (by go_grown) (hB3.mono (by simp))
                have hb3 := next hb hB3'
                have hcell3 := (hB3'.cell (p := ⟨w1.heap.size, k, none⟩) hglt).trans hcell
                have hfz3 := (hB3'.frozen (p := ⟨w1.heap.size, k, none⟩) hglt).trans hfz
                clear hcell hfz
                have HN3 := hide (HNX.out w3 hB3')
                have hsz3 := hb3.size
                go_wp2_with fail
                go_roundw
                case rel => exact ⟨k + 1, _, _, hlt, by go_num, rfl, HK2, HN3.out, by go_grown⟩
                case measure => simp [intOf]; omega
              · have hLb : (x.last == (m : Int)) = false := by simp [hL]
                have HK2 : Hid (tfK l day m (k + 1) (tfL l day want m) = (f, q)) := hide (by
                  unfold tfK
                  rw [HX.out, if_neg hL, HK.out])
                have HS2 : Hid (IntSl (wr.alloc (.cells #[.int .i64 x.many, .int .i64 x.last] 36)) w.heap.size (.slice (some ⟨w1.heap.size, 0, none⟩) l.length l.length) (tab l.length f)) := hide (World.ownsRow.alloc hS _)
                clear hS hL
                go_wp2_with fail
                go_roundw
                case rel => exact ⟨k + 1, _, _, hlt, by go_num, rfl, HK2, HS2.out, by go_grown⟩
                case measure => simp [intOf]; omega
            · have HM2 : Hid (tfL l day want (m + 1) = (f, q)) := hide (by
                have : k = l.length := by omega
                subst this
                rw [tfL, HK.out])
              have HSE := hide hS
              clear hS
              go_wp2_with fail
              go_roundw
              case rel => exact ⟨m + 1, _, _, by omega, by go_num, rfl, HM2, HSE.out, hb⟩
              case measure => simp [intOf]; omega
        · have HSE : Hid (IntSl wr w.heap.size (.slice (some ⟨w1.heap.size, 0, none⟩) l.length l.length) (takeFirstL l day want)) := hide (by
            have : m = 6 := by omega
            subst this
            rw [HR.out, HM.out]
            exact hS)
          clear hS
          go_wp2_with fail
          refine bodyPost_ret (results_tmp rfl _ _ _) rfl ⟨.slice (some ⟨w1.heap.size, 0, none⟩) l.length l.length, rfl, HSE.out, hb⟩
set_option maxRecDepth 100000 in
set_option maxHeartbeats 2000000 in
theorem specTakeFirst_any (A : Option Addr) (c : Nat) (l : List Lot) (day want : Int) (w : World) (hA : LotsAt w A l) (hl : l.length ≤ 1048576) :
    Calls Tryd.prog 57 #[.slice A l.length c, .int .i64 day, .int .i64 want] w fun e w' => ∃ v, e = .returned v ∧ IntSl w' w.heap.size v (takeFirstL l day want) ∧ Below w.heap.size w w' := by
  cases hI : lotsOk l with
  | false =>
    have HI := hide hI
    have HR : Hid (takeFirstL l day want = []) := by unfold takeFirstL; rw [hI]; exact hide rfl
    clear hI
    go_enter Tryd.func57, Tryd.ntmps57
    go_wp2_with fail
    refine (specLotsValid_any _ _ _ _ hA hl).mono ?_
    rintro e w1 ⟨rfl, hB1⟩
    have hsz1 := hB1.size
    rw [HI.out]
    go_wp2_with fail
    refine bodyPost_ret (results_tmp rfl _ _ _) rfl ⟨.slice (some ⟨w1.heap.size, 0, none⟩) 0 0, rfl, by rw [HR.out]; exact World.ownsRow_lit w1 #[] 0 hB1.size (by unfold maxLen; omega) rfl, by go_grown⟩
  | true =>
    have HI := hide hI
    have h5 := lotsOk_len hI
    cases hW : inR want 0 50 with
    | false =>
      have HW := hide hW
      have HR : Hid (takeFirstL l day want = []) := by unfold takeFirstL; rw [hI, hW]; exact hide rfl
      clear hI hW
      go_enter Tryd.func57, Tryd.ntmps57
      go_wp2_with fail
      refine (specLotsValid_any _ _ _ _ hA hl).mono ?_
      rintro e w0 ⟨rfl, hB1⟩
      rw [HI.out]
      have hsz1 := hB1.size
      go_wp2_with fail
      refine (l1In_is _ _ _ _ HW _).mono ?_
      rintro e w1 ⟨rfl, rfl⟩
      go_wp2_with fail
      refine bodyPost_ret (results_tmp rfl _ _ _) rfl ⟨.slice (some ⟨w1.heap.size, 0, none⟩) 0 0, rfl, by rw [HR.out]; exact World.ownsRow_lit w1 #[] 0 hB1.size (by unfold maxLen; omega) rfl, by go_grown⟩
    | true =>
      have HW := hide hW
      have hw01 := inR_iff.1 hW
      have HR : Hid (takeFirstL l day want = tab l.length (tfL l day want 6).1) := by unfold takeFirstL; rw [hI, hW]; exact hide rfl
      have HTR := hide (tfL_range hI day want hw01.1 hw01.2)
      have hmk := make_ints l.length hl
      by_cases hd6 : day < 6
      · obtain ⟨d0, hd0⟩ : ∃ d0 : Nat, (if day < 0 then (0 : Int) else day) = d0 := ⟨day.toNat, by split <;> omega⟩
        have hd1 : day ≤ d0 := by rw [← hd0]; split <;> omega
        have hd2 : d0 < 6 := by
          have : (d0 : Int) < 6 := by rw [← hd0]; split <;> omega
          omega
        have HDI : Hid (tfL l day want d0 = (fun _ => 0, want)) := hide (tfL_idle hI hw01.1 d0 (by rw [← hd0]; split <;> omega))
        clear hI hW hw01
        go_enter Tryd.func57, Tryd.ntmps57
        go_wp2_with fail
        refine (specLotsValid_any _ _ _ _ hA hl).mono ?_
        rintro e w0 ⟨rfl, hB1⟩
        rw [HI.out]
        have hsz1 := hB1.size
        go_wp2_with fail
        refine (l1In_is _ _ _ _ HW _).mono ?_
        rintro e w1 ⟨rfl, rfl⟩
        go_wp2_with fail
        clear hmk
        have HZ := hide (zeros_sl (w := w1) (lo := w.heap.size) l.length hsz1 hl)
        go_loopw [2, 8] (fun wv i wr => ∃ (m : Nat) (f : Nat → Int) (q : Int), d0 ≤ m ∧ m ≤ 6 ∧ i = .int .i64 m ∧ wv = .int .i64 q ∧ Hid (tfL l day want m = (f, q)) ∧ IntSl wr w.heap.size (.slice (some ⟨w1.heap.size, 0, none⟩) l.length l.length) (tab l.length f) ∧ Below w.heap.size w wr) (fun _ i _ => 6 - (intOf i).toNat)
        case atStart => exact ⟨d0, _, _, Nat.le_refl _, by omega, rfl, rfl, HDI, HZ.out, by go_grown⟩
        case round =>
          clear HZ hB1
          obtain ⟨m, f, q, hdm, hm, rfl, rfl, HM, hS, hb⟩ := hrel
          have hsz := hb.size
          by_cases hm6 : m < 6
          · have hmz : (0 : Int) ≤ m := by omega
            have hmz2 : (m : Int) < 6 := by omega
            have HS := hide hS
            clear hS
            go_wp2_with fail
            obtain ⟨wo, rfl⟩ : ∃ wo : World, wo = wr := ⟨_, rfl⟩
            go_loopw [2, 9] (fun wv i wr => ∃ (k : Nat) (f : Nat → Int) (q : Int), k ≤ l.length ∧ i = .int .i64 k ∧ wv = .int .i64 q ∧ Hid (tfK l day m k (tfL l day want m) = (f, q)) ∧ IntSl wr w.heap.size (.slice (some ⟨w1.heap.size, 0, none⟩) l.length l.length) (tab l.length f) ∧ Below w.heap.size w wr) (fun _ i _ => l.length - (intOf i).toNat)
            case atStart => exact ⟨0, f, q, by omega, rfl, rfl, hide HM.out, HS.out, hb⟩
            case round =>
              clear HS HM hb hsz
              obtain ⟨k, f, q, hk, rfl, rfl, HK, hS, hb⟩ := hrel
              have hsz := hb.size
              by_cases hlt : k < l.length
              · obtain ⟨b, off, rfl, hbl, hc1, hc2⟩ := (hA.below hb) k l[k] (List.getElem?_eq_getElem hlt)
                have hx := lotsOk_at HI.out (List.getElem_mem hlt)
                have HX : Hid (l.getD k nilLot = l[k]) := hide (by simp [hlt])
                have hq : 0 ≤ q ∧ q ≤ 50 := by
                  have := tfK_range HI.out day m k (tfL l day want m) (HTR.out m).1 (HTR.out m).2
                  rw [HK.out] at this
                  exact this
                obtain ⟨hq0, hq1⟩ := hq
                have hu := usab_range hx day
                generalize l[k] = x at *
                clear hx
                have hz : (0 : Int) ≤ k := by omega
                have hz2 : (k : Int) < l.length := by omega
                by_cases hL : x.last = m
                · have hLb : (x.last == (m : Int)) = true := by simp [hL]
                  obtain ⟨u, HU⟩ : ∃ u, Hid (usab x day = u) := ⟨_, hide rfl⟩
                  have HUM : Hid (x.many = u) := hide (by rw [← HU.out]; unfold usab; rw [if_neg (by omega)])
                  rw [HU.out] at hu
                  obtain ⟨hu0, hu1⟩ := hu
                  obtain ⟨t, HT⟩ : ∃ t, Hid (min q u = t) := ⟨_, hide rfl⟩
                  have ht : 0 ≤ t ∧ t ≤ q ∧ t ≤ u := by rw [← HT.out]; omega
                  obtain ⟨ht0, ht1, ht2⟩ := ht
                  have hmin : (if q < x.many then q else x.many) = t := by rw [← HT.out, HUM.out]; split <;> omega
                  have HK2 : Hid (tfK l day m (k + 1) (tfL l day want m) = ((fun j => if j = k then t else f j), q - t)) := hide (by
                    unfold tfK
                    rw [HX.out, if_pos hL, HK.out, HU.out, HT.out])
                  have hcell : wr.cell? ⟨w1.heap.size, k, none⟩ = some (.int .i64 (f k)) := hS.cellAt (tab_at hlt)
                  have hfz := hS.frozenAt k
                  have hglt := (World.ownsRow.lt hS w1.heap.size rfl).2
                  have HNX : Hid (IntSl (wr.setCell ⟨w1.heap.size, k, none⟩ (.int .i64 t)) w.heap.size (.slice (some ⟨w1.heap.size, 0, none⟩) l.length l.length) (tab l.length (fun j => if j = k then t else f j))) := hide (by
                    rw [← tab_set]
                    exact IntSl.store hS k t)
                  clear hS hL
                  go_wp2_with fail
                  go_roundw
                  case rel => exact ⟨k + 1, _, _, hlt, by go_num, rfl, HK2, HNX.out, by go_grown⟩
                  case measure => simp [intOf]; omega
                · have hLb : (x.last == (m : Int)) = false := by simp [hL]
                  have HK2 : Hid (tfK l day m (k + 1) (tfL l day want m) = (f, q)) := hide (by
                    unfold tfK
                    rw [HX.out, if_neg hL, HK.out])
                  have HS2 := hide hS
                  clear hS hL
                  go_wp2_with fail
                  go_roundw
                  case rel => exact ⟨k + 1, _, _, hlt, by go_num, rfl, HK2, HS2.out, by go_grown⟩
                  case measure => simp [intOf]; omega
              · have HM2 : Hid (tfL l day want (m + 1) = (f, q)) := hide (by
                  have : k = l.length := by omega
                  subst this
                  rw [tfL, HK.out])
                have HSE := hide hS
                clear hS
                go_wp2_with fail
                go_roundw
                case rel => exact ⟨m + 1, _, _, by omega, by omega, by go_num, rfl, HM2, HSE.out, hb⟩
                case measure => simp [intOf]; omega
          · have HSE : Hid (IntSl wr w.heap.size (.slice (some ⟨w1.heap.size, 0, none⟩) l.length l.length) (takeFirstL l day want)) := hide (by
              have : m = 6 := by omega
              subst this
              rw [HR.out, HM.out]
              exact hS)
            clear hS
            go_wp2_with fail
            refine bodyPost_ret (results_tmp rfl _ _ _) rfl ⟨.slice (some ⟨w1.heap.size, 0, none⟩) l.length l.length, rfl, HSE.out, hb⟩
      · have hmax : (if day < 0 then (0 : Int) else day) = day := by rw [if_neg (by omega)]
        have HDI : Hid (takeFirstL l day want = tab l.length (fun _ => 0)) := hide (by rw [HR.out, tfL_idle hI hw01.1 6 (by omega)])
        clear hI hW hw01
        go_enter Tryd.func57, Tryd.ntmps57
        go_wp2_with fail
        refine (specLotsValid_any _ _ _ _ hA hl).mono ?_
        rintro e w0 ⟨rfl, hB1⟩
        rw [HI.out]
        have hsz1 := hB1.size
        go_wp2_with fail
        refine (l1In_is _ _ _ _ HW _).mono ?_
        rintro e w1 ⟨rfl, rfl⟩
        go_wp2_with fail
        clear hmk
        have HZ := hide (zeros_sl (w := w1) (lo := w.heap.size) l.length hsz1 hl)
        go_loopw [8] (fun i wr => i = .int .i64 day ∧ wr = w1.alloc (.cells (madeCells #[.int .i64 0] l.length) 3)) (fun _ _ => 0)
        case atStart => exact ⟨rfl, rfl⟩
        case round =>
          obtain ⟨rfl, rfl⟩ := hrel
          go_wp2_with fail
          refine bodyPost_ret (results_tmp rfl _ _ _) rfl ⟨.slice (some ⟨w1.heap.size, 0, none⟩) l.length l.length, rfl, by rw [HDI.out]; exact HZ.out, by go_grown⟩
end Go.Proofs.YtndcanllkmfahaaDoor
