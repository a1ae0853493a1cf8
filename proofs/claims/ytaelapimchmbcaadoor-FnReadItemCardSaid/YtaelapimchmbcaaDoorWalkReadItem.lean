/- For all drawn bytes the law of ReadItem answers true, and its argument reads as it did.
   Conditions: the library's variables hold what their types ask. -/
import Derived.Test.YtaelapimchmbcaaDoorLibStart
import Derived.Test.YtaelapimchmbcaaDoorReadSp
import Derived.Test.YtaelapimchmbcaaDoorDrawItemOk
import Derived.Test.YtaelapimchmbcaaDoorWalkItemText
namespace Go.Proofs.YtaelapimchmbcaaDoor
open Go.RowKit Go.ChangeShapes Go.WideShapes Go.ChangeAt Go.Deep

def tbl6 (j : Nat) : ByteArray := match j with | 0 => ⟨#[]⟩ | 1 => ⟨#[48]⟩ | 2 => ⟨#[42]⟩ | 3 => ⟨#[44]⟩ | 4 => ⟨#[61]⟩ | _ => ⟨#[51]⟩
theorem tbl6_size (j : Nat) : (tbl6 j).size ≤ 1 := by unfold tbl6; split <;> decide
def row6 : Obj := .cells #[.string ⟨#[]⟩, .string ⟨#[48]⟩, .string ⟨#[42]⟩, .string ⟨#[44]⟩, .string ⟨#[61]⟩, .string ⟨#[51]⟩] 9
theorem row6_cell {W : World} {g j : Nat} (h : W.heap[g]? = some row6) (hj : j < 6) : W.cell? ⟨g, j, none⟩ = some (.string (tbl6 j)) := by
  rw [cell_of_row W g j _ _ _ h]
  rcases (by omega : j = 0 ∨ j = 1 ∨ j = 2 ∨ j = 3 ∨ j = 4 ∨ j = 5) with rfl | rfl | rfl | rfl | rfl | rfl <;> rfl
/-- The text of a valid item ends in no '!'. -/
theorem text_last {x : Item} {s : List UInt8} (h : itemTextL x = s ++ [33]) : False := by
  have hok : itemOk x 5 = true := text_some (by rw [h]; simp)
  have hm := (itemOk_at hok).1
  have hfree : (33 : UInt8) ∉ decD x.marks := decD_free (by omega) (by omega) (by decide)
  have hne : decD x.marks ≠ [] := by unfold decD Lib.decDigits; split <;> simp
  unfold itemTextL at h
  rw [if_pos hok] at h
  have h2 := congrArg List.getLast? h
  rw [List.getLast?_append, List.getLast?_append] at h2
  have e1 : (61 :: (Lib.join (x.parts.map partText) [44] ++ 33 :: decD x.marks)).getLast? = (decD x.marks).getLast? := by
    rw [← List.cons_append, List.getLast?_append, ← List.singleton_append, List.getLast?_append]
    obtain ⟨a, ha⟩ : ∃ a, (decD x.marks).getLast? = some a := ⟨_, List.getLast?_eq_some_getLast hne⟩
    rw [ha]
    rfl
  rw [e1] at h2
  obtain ⟨a, ha⟩ : ∃ a, (decD x.marks).getLast? = some a := ⟨_, List.getLast?_eq_some_getLast hne⟩
  rw [ha] at h2
  have e2 : a = 33 := by simpa using h2
  subst e2
  exact hfree (List.mem_of_getLast? ha)
theorem readRes_more (s : List UInt8) : readRes (s ++ [33]) = (⟨0, [], 0⟩, false) := readRes_no (fun h => text_last h.2)
theorem readRes_text {s : List UInt8} {x : Item} (h : readRes s = (x, true)) : itemTextL x = s ∧ x.parts.length ≤ 3 := by
  by_cases hc : s ≠ [] ∧ itemTextL (itemI s) = s
  · rw [readRes_yes hc] at h
    injection h with h _
    subst h
    exact ⟨hc.2, (itemOk_at (text_some (by rw [hc.2]; exact hc.1))).1.2.2.2.2⟩
  · rw [readRes_no hc] at h
    injection h with _ h
    cases h
theorem readRes_none0 {s : List UInt8} {x : Item} (h : readRes s = (x, false)) : x = ⟨0, [], 0⟩ := by
  by_cases hc : s ≠ [] ∧ itemTextL (itemI s) = s
  · rw [readRes_yes hc] at h
    injection h with _ h
    cases h
  · rw [readRes_no hc] at h
    injection h with h _
    exact h.symm

def DrawnRI (w : World) (e : Ending) (w' : World) : Prop := ∃ S : ByteArray, e = .returned (.string S) ∧ S.size ≤ 5000 ∧ Below w.heap.size w w'
set_option maxRecDepth 100000 in
set_option maxHeartbeats 2000000 in
theorem drawReadItem_any (A : Option Addr) (c m : Nat) (w : World) (hB : BytesIn w A m) (hm : m ≤ 9223372036854775807) (hc : m ≤ c) (hc2 : c ≤ 9223372036854775807) :
    Calls Tryd.prog 13 #[.slice A m c] w (DrawnRI w) := by
  go_enter Tryd.func13, Tryd.ntmps13
  go_wp2_with fail
  refine (open_any A c m w hB hm hc hc2).mono ?_
  rintro e w1 ⟨rfl, hR1, hb1⟩
  go_wp2_with fail
  refine (l20Item_good w.heap.size 0 5 _ hR1 (by omega) (by omega) (by omega)).mono ?_
  rintro e w2 ⟨x, A2, c2, rfl, hP2, -, hl2, hok, hR2, hg2⟩
  have hb2 : Below w.heap.size w w2 := hb1.grown hg2 hb1.size (fun j hj => by injection hj with hj; omega)
  obtain ⟨T, HT⟩ : ∃ T, Hid (itemTextL x = T) := ⟨_, hide rfl⟩
  have hTl : T.length ≤ 2000 ∧ 1 ≤ T.length := by
    rw [← HT.out]
    have h1 := textTo_len hok x.parts.length
    have h2 := decD_len (n := x.marks) (by have := (itemOk_at hok).1; omega)
    have e1 : itemTextL x = textTo x x.parts.length ++ 33 :: decD x.marks := by unfold itemTextL textTo; rw [if_pos hok, List.take_length]; simp
    rw [e1, List.length_append, List.length_cons]
    omega
  obtain ⟨hTl, hT1⟩ := hTl
  clear hok
  go_wp2_with fail
  refine (specItemText_any _ _ x _ hP2 (by omega)).mono ?_
  rintro e w3 ⟨rfl, hB3⟩
  rw [HT.out]
  have hb3 := next hb2 hB3
  have hR3 : Rd w3 w.heap.size 20 := (hR2.mono (by omega)).kept (fun j hj => hB3.block j (by have := hR2.lt; omega))
  clear hB3 hP2 hl2 hR2 hg2 hb2
  go_wp2_with fail
  refine (pick_any w.heap.size _ 3 _ hR3 (by omega) (by omega)).mono ?_
  rintro e w4 ⟨q4, rfl, hq40, hq41, hR4, hg4⟩
  have hb4 : Below w.heap.size w w4 := hb3.grown hg4 hb3.size (fun j hj => by injection hj with hj; omega)
  clear hR3 hg4 hb3
  by_cases hq : q4 = 0
  · have hqb : (q4 == 0) = true := by simp [hq]
    clear hq
    go_wp2_with fail
    refine (pick_any w.heap.size _ (T.length : Int) _ hR4 (by omega) (by omega)).mono ?_
    rintro e w5 ⟨q5, rfl, hq50, hq51, hR5, hg5⟩
    have hb5 : Below w.heap.size w w5 := hb4.grown hg5 hb4.size (fun j hj => by injection hj with hj; omega)
    obtain ⟨k, rfl⟩ : ∃ k : Nat, q5 = k := ⟨q5.toNat, by omega⟩
    have hk1 : k < T.length := by omega
    have hk2 : (k : Int) ≤ T.length := by omega
    have hk3 : (0 : Int) ≤ (k : Int) + 1 := by omega
    have hk4 : (k : Int) + 1 ≤ T.length := by omega
    have hkw : IntKind.i64.wrap ((k : Int) + 1) = (k : Int) + 1 := IntWalk.i64_in _ (by omega)
    have hkn : ((k : Int) + 1).toNat = k + 1 := by omega
    have hbw : w.heap.size < w5.heap.size := hR5.lt
    have HPA : Hid (Calls Tryd.prog 30 #[.pointer (some ⟨w.heap.size, 0, none⟩), .int .i64 6] (w5.alloc row6).drew (fun e w' => ∃ j : Nat, e = .returned (.int .i64 j) ∧ j < 6 ∧ w'.cell? ⟨w5.heap.size, j, none⟩ = some (.string (tbl6 j)) ∧ Below w.heap.size w w')) := hide (by
      have hR6 : Rd (w5.alloc row6).drew w.heap.size (20 + 1 + 1) := hR5.kept (fun j hj => heap_alloc_old w5 _ (by omega))
      refine (pick_any w.heap.size _ 6 _ hR6 (by omega) (by omega)).mono ?_
      rintro e w6 ⟨q6, rfl, h60, h61, -, hg6⟩
      obtain ⟨j, rfl⟩ : ∃ j : Nat, q6 = j := ⟨q6.toNat, by omega⟩
      refine ⟨j, rfl, by omega, row6_cell ((hg6.block w5.heap.size (by simp) (fun e => by injection e with e; omega)).trans (heap_alloc_new w5 _)) (by omega), ?_⟩
      exact (hb5.alloc hb5.size row6).drew.grown hg6 (by have := hb5.size; simp; omega) (fun j hj => by injection hj with hj; omega))
    have HPB : Hid (Calls Tryd.prog 30 #[.pointer (some ⟨w.heap.size, 0, none⟩), .int .i64 6] w5.drew (fun e w' => ∃ j : Nat, e = .returned (.int .i64 j) ∧ j < 6 ∧ (w'.alloc row6).cell? ⟨w'.heap.size, j, none⟩ = some (.string (tbl6 j)) ∧ Below w.heap.size w (w'.alloc row6))) := hide (by
      have hR6 : Rd w5.drew w.heap.size (20 + 1 + 1) := hR5.kept (fun j hj => rfl)
      refine (pick_any w.heap.size _ 6 _ hR6 (by omega) (by omega)).mono ?_
      rintro e w6 ⟨q6, rfl, h60, h61, -, hg6⟩
      obtain ⟨j, rfl⟩ : ∃ j : Nat, q6 = j := ⟨q6.toNat, by omega⟩
      have hb6 : Below w.heap.size w w6 := hb5.drew.grown hg6 hb5.size (fun j hj => by injection hj with hj; omega)
      exact ⟨j, rfl, by omega, row6_cell (heap_alloc_new w6 _) (by omega), hb6.alloc hb6.size _⟩)
    unfold row6 at HPA HPB
    have hs1 : ((⟨T.toArray⟩ : ByteArray).extract 0 k).size ≤ 2000 := by rw [extract_list]; show (List.toArray _).size ≤ _; simp; omega
    have hs2 : ((⟨T.toArray⟩ : ByteArray).extract (k + 1) T.length).size ≤ 2000 := by rw [extract_list]; show (List.toArray _).size ≤ _; simp; omega
    obtain ⟨P1, hP1⟩ : ∃ P1, (⟨T.toArray⟩ : ByteArray).extract 0 k = P1 := ⟨_, rfl⟩
    obtain ⟨P2, hP2⟩ : ∃ P2, (⟨T.toArray⟩ : ByteArray).extract (k + 1) T.length = P2 := ⟨_, rfl⟩
    rw [hP1] at hs1
    rw [hP2] at hs2
    have HS1 := hide hs1
    have HS2 := hide hs2
    have ha1 : ∀ (j : Nat) (W : World), (Op.stringOp .add P1 (tbl6 j)).run Tryd.prog W = .ok (.string (P1 ++ tbl6 j)) W := fun j W => run_string_add_sum W _ _ (by have := tbl6_size j; have := HS1.out; omega)
    have ha2 : ∀ (j : Nat) (W : World), (Op.stringOp .add (P1 ++ tbl6 j) P2).run Tryd.prog W = .ok (.string (P1 ++ tbl6 j ++ P2)) W := fun j W => run_string_add_sum W _ _ (by rw [ByteArray.size_append]; have := tbl6_size j; have := HS1.out; have := HS2.out; omega)
    clear hs1 hs2 hR4 hg5 hb4 hqb hq50 hq51
    go_wp2_with fail
    go_region_law (go_simp; go_at_call 30; first | (refine HPA.out.mono ?_; rintro e w6 ⟨j, rfl, hj, hc6, hb6⟩; have hj0 : (0 : Int) ≤ j := Int.natCast_nonneg j; have hj1 : (j : Int) < 6 := by omega) | (refine HPB.out.mono ?_; rintro e w6 ⟨j, rfl, hj, hc6, hb6⟩; have hj0 : (0 : Int) ≤ j := Int.natCast_nonneg j; have hj1 : (j : Int) < 6 := by omega))
    all_goals
      go_wp2_with fail
      go_ret
      exact ⟨_, rfl, by rw [ByteArray.size_append, ByteArray.size_append]; have := tbl6_size j; have := HS1.out; have := HS2.out; omega, hb6⟩
  · have hqb : (q4 == 0) = false := by simp [hq]
    clear hq
    go_wp2_with fail
    go_ret
    exact ⟨_, rfl, by show (List.toArray _).size ≤ _; simp; omega, hb4⟩

set_option maxRecDepth 100000 in
set_option maxHeartbeats 4000000 in
theorem lawReadItem_any (A : Option Addr) (c m : Nat) (w : World) (hB : BytesIn w A m) (hc : m ≤ c) (hc2 : c ≤ 9223372036854775807) (hL : LibAt w) :
    Calls Tryd.prog 4 #[.slice A m c] w fun e w' => e = .returned (.bool true) ∧ Below w.heap.size w w' := by
  by_cases hlen : (1048576 : Int) < m
  · go_enter Tryd.func4, Tryd.ntmps4
    go_wp2_with fail
    go_ret
    exact ⟨rfl, by go_grown⟩
  · go_enter Tryd.func4, Tryd.ntmps4
    go_wp2_with fail
    refine (drawReadItem_any A c m w hB (by omega) hc hc2).mono ?_
    rintro e w1 ⟨S, rfl, hS, hb1⟩
    obtain ⟨⟨s⟩⟩ := S
    have hs : s.length ≤ 5000 := by
      have : (List.toArray s).size ≤ 5000 := hS
      simpa using this
    clear hS
    have HRM := hide (readRes_more s)
    have HTX := hide (fun x (h : readRes s = (x, true)) => readRes_text h)
    have HTN := hide (fun x (h : readRes s = (x, false)) => readRes_none0 h)
    have HSp := hide (fun V => specReadItem_any s V (by omega))
    have HIm := hide (fun V (hV : LibAt V) => implReadItem_any s V (by omega) hV)
    have HIn := hide (fun V (hV : LibAt V) => implReadItem_any (s ++ [33]) V (by simp; omega) hV)
    have hadd := add_lists s [33] (by simp; omega)
    unfold ReadPost at HSp HIm HIn
    rw [HRM.out] at HIn
    obtain ⟨rr, hrr⟩ : ∃ rr, readRes s = rr := ⟨_, rfl⟩
    rw [hrr] at HSp HIm HTX HTN
    clear hrr HRM
    obtain ⟨⟨y, ps, mk⟩, b⟩ := rr
    have hl : ps.length ≤ 1048576 := by
      cases b with
      | true => have := (HTX.out _ rfl).2; show ps.length ≤ _; have h2 : ps.length ≤ 3 := this; omega
      | false => have h2 := HTN.out _ rfl; injection h2 with _ h2 _; rw [h2]; simp
    have hbn : (b != b) = false := by simp
    go_wp2_with fail
    refine (HIm.out w1 (hL.below hb1)).mono ?_
    rintro e w2 ⟨v0, rfl, hS0, hB2⟩
    obtain ⟨A0, c0, rfl, hQ0⟩ := hS0.form
    have hb2 := next hb1 hB2
    have hal2 : Below w2.heap.size w2 (w2.alloc (.cells #[.int .i64 y, .slice A0 ps.length c0, .int .i64 mk] 25)) := (Below.refl _ _).alloc (Nat.le_refl _) _
    have HZ := hide (And.intro (next hb2 hal2) (And.intro (heap_alloc_new w2 (.cells #[.int .i64 y, .slice A0 ps.length c0, .int .i64 mk] 25)) (hQ0.below hal2)))
    clear hb2 hal2 hQ0 hS0 hB2 hb1
    go_upto_region 5 with fail
    obtain ⟨hb2, hx2, hQ2⟩ := HZ.out
    clear HZ
    obtain ⟨W2, hW2⟩ : ∃ W, w2.alloc (.cells #[.int .i64 y, .slice A0 ps.length c0, .int .i64 mk] 25) = W := ⟨_, rfl⟩
    rw [hW2] at hb2 hx2 hQ2 ⊢
    obtain ⟨x2, hX2⟩ : ∃ x, w2.heap.size = x := ⟨_, rfl⟩
    rw [hX2] at hx2 ⊢
    clear hW2 hX2
    have HX2 := hide hx2
    have HQ2 := hide hQ2
    clear hx2 hQ2
    go_wp2_with fail
    refine (HSp.out W2).mono ?_
    rintro e w3 ⟨v1, rfl, hS1, hB3⟩
    obtain ⟨A1, c1, rfl, hQ1⟩ := hS1.form
    have hb3 := next hb2 hB3
    have hx3 := (hB3.block x2 (heap_ltI HX2.out)).trans HX2.out
    have hQ3 := HQ2.out.below hB3
    have hal3 : Below w3.heap.size w3 (w3.alloc (.cells #[.int .i64 y, .slice A1 ps.length c1, .int .i64 mk] 25)) := (Below.refl _ _).alloc (Nat.le_refl _) _
    have HZ := hide (And.intro (next hb3 hal3) (And.intro (heap_alloc_new w3 (.cells #[.int .i64 y, .slice A1 ps.length c1, .int .i64 mk] 25)) (And.intro ((heap_alloc_old w3 (.cells #[.int .i64 y, .slice A1 ps.length c1, .int .i64 mk] 25) (heap_ltI hx3)).trans hx3) (And.intro (hQ3.below hal3) (hQ1.below hal3)))))
    clear hb3 hal3 hQ1 hS1 hB3 hb2 hx3 hQ3 HX2 HQ2
    go_upto_region 6 with fail
    obtain ⟨hb4, hy4, hx4, hQ4, hR4⟩ := HZ.out
    clear HZ
    obtain ⟨W4, hW4⟩ : ∃ W, w3.alloc (.cells #[.int .i64 y, .slice A1 ps.length c1, .int .i64 mk] 25) = W := ⟨_, rfl⟩
    rw [hW4] at hb4 hy4 hx4 hQ4 hR4 ⊢
    obtain ⟨x4, hX4⟩ : ∃ x, w3.heap.size = x := ⟨_, rfl⟩
    rw [hX4] at hy4 ⊢
    clear hW4 hX4
    have HX4 := hide hx4
    have HQ4 := hide hQ4
    have HR4 := hide hR4
    obtain ⟨k0, k1, k2⟩ := cells3I hx4
    obtain ⟨d0, d1, d2⟩ := cells3I hy4
    clear hx4 hy4 hQ4 hR4
    have HSA := hide (fun V (h : PartsAt V A0 ps) (h' : PartsAt V A1 ps) => sameItem_any A0 A1 c0 c1 y mk ps V h h' hl)
    go_wp2_with fail
    refine (HSA.out _ HQ4.out HR4.out).mono ?_
    rintro e w5 ⟨rfl, hB5⟩
    have hb5 := next hb4 hB5
    have HX5 := hide ((hB5.block x2 (heap_ltI HX4.out)).trans HX4.out)
    have HQ5 := hide (HQ4.out.below hB5)
    clear k0 k1 k2 d0 d1 d2 hB5 hb4 HX4 HQ4 HR4 HSA
    obtain ⟨k0, k1, k2⟩ := cells3I HX5.out
    cases b with
    | false =>
      have h0 := HTN.out _ rfl
      injection h0 with h0 h1 h2
      subst h0 h1 h2
      have HSA := hide (fun V => sameItem_any A0 none c0 0 0 0 [] V (fun i p hp => by simp at hp) (fun i p hp => by simp at hp) (by simp))
      go_wp2_with fail
      refine (HSA.out _).mono ?_
      rintro e w6 ⟨rfl, hB6⟩
      have hb6 := next hb5 hB6
      go_wp2_with fail
      refine (alive_any _).mono ?_
      rintro e w7 ⟨rfl, hB7⟩
      go_wp2_with fail
      go_ret
      exact ⟨rfl, next hb6 hB7⟩
    | true =>
      have HTT := hide (HTX.out _ rfl).1
      have hss : (s == s) = true := by simp
      clear k0 k1 k2
      go_wp2_with fail
      refine (HIn.out w5 (hL.below hb5)).mono ?_
      rintro e w6 ⟨v2, rfl, hS2, hB6⟩
      obtain ⟨A2, c2, e2, -⟩ := hS2.form
      have e2 : v2 = .slice A2 0 c2 := e2
      subst e2
      have hb6 := next hb5 hB6
      have hx6 := (hB6.block x2 (heap_ltI HX5.out)).trans HX5.out
      have hQ6 := HQ5.out.below hB6
      have hal6 : Below w6.heap.size w6 (w6.alloc (.cells #[.int .i64 0, .slice A2 0 c2, .int .i64 0] 25)) := (Below.refl _ _).alloc (Nat.le_refl _) _
      have HZ := hide (And.intro (next hb6 hal6) (And.intro ((heap_alloc_old w6 (.cells #[.int .i64 0, .slice A2 0 c2, .int .i64 0] 25) (heap_ltI hx6)).trans hx6) (hQ6.below hal6)))
      clear hb6 hal6 hS2 hB6 hb5 hx6 hQ6 HX5 HQ5
      go_upto_region 11 with fail
      obtain ⟨hb7, hx7, hQ7⟩ := HZ.out
      clear HZ
      obtain ⟨W7, hW7⟩ : ∃ W, w6.alloc (.cells #[.int .i64 0, .slice A2 0 c2, .int .i64 0] 25) = W := ⟨_, rfl⟩
      rw [hW7] at hb7 hx7 hQ7 ⊢
      clear hW7
      obtain ⟨k0, k1, k2⟩ := cells3I hx7
      have HIT := hide (implItemText_any A0 c0 ⟨y, ps, mk⟩ W7 hQ7 hl)
      rw [HTT.out] at HIT
      clear hx7 hQ7
      go_wp2_with fail
      refine HIT.out.mono ?_
      rintro e w8 ⟨rfl, hB8⟩
      have hb8 := next hb7 hB8
      go_wp2_with fail
      go_ret
      exact ⟨rfl, hb8⟩
end Go.Proofs.YtaelapimchmbcaaDoor
