/- Contract of the draw of a number of guests, who does not sit with whom, and tables.
   Conditions: the bounds in each statement. -/
import Derived.Test.YthbainbgimbjeaaDoorDrawQuar
import Derived.Test.YthbainbgimbjeaaDoorGuests11
namespace Go.Proofs.YthbainbgimbjeaaDoor
open Go.RowKit Go.ChangeShapes Go.WideShapes Go.ChangeAt Go.Deep

theorem tdiv19s {p : Int} (h0 : 0 ≤ p) (h1 : p < 20) : ∃ t : Int, p.tdiv 19 = t ∧ 0 ≤ t ∧ t ≤ 1 := by
  refine ⟨_, rfl, ?_⟩
  rw [Int.tdiv_eq_ediv_of_nonneg h0]
  omega
theorem seatsFirst_range {g : Int} {q : List Int} (hq : q.length ≤ 7) : ∀ x ∈ seatsFirstL g q, -1 ≤ x ∧ x ≤ 7 := by
  intro x hx
  unfold seatsFirstL at hx
  split at hx
  · obtain ⟨i, hi, rfl⟩ := List.getElem_of_mem hx
    have h2 : i < q.length := by rw [seatsTo_len] at hi; exact hi
    have := seatsTo_at q q.length i h2
    rw [show (seatsTo q q.length).getD i 0 = (seatsTo q q.length)[i] from by simp [hi]] at this
    omega
  · simp at hx

/-- A number of guests, quarrels, and tables, drawn. -/
def DrewSeated (w : World) (b : Nat) (n : Nat) (e : Ending) (w' : World) : Prop := ∃ (gs : Int) (ls : List Int) (g c : Nat) (ss : List Int) (v : Value), e = .returned (.tuple #[.int .i64 gs, .slice (some ⟨g, 0, none⟩) ls.length c, v]) ∧
  IntSl w' w.heap.size (.slice (some ⟨g, 0, none⟩) ls.length c) ls ∧ ls.length ≤ 7 ∧ IntSl w' w.heap.size v ss ∧ ss.length ≤ 7 ∧ (∀ x ∈ ss, -1 ≤ x ∧ x ≤ 7) ∧ Rd w' b (n + 90) ∧ w.grownBy w' (some b)

set_option maxRecDepth 100000 in
set_option maxHeartbeats 4000000 in
theorem l20Seated_any (b n : Nat) (w : World) (hR : Rd w b n) (hn : n ≤ 70000) :
    Calls Tryd.prog 47 #[.pointer (some ⟨b, 0, none⟩)] w (DrewSeated w b n) := by
  have hblt := hR.lt
  go_enter Tryd.func47, Tryd.ntmps47
  go_wp2_with fail
  refine (l20Quarrels_any b n 9 _ hR (by omega) (by omega)).mono ?_
  rintro e w1 ⟨gs, ls, g, c, rfl, hS1, hl7, hle, hg0, hg6, hR1, hg1⟩
  have HQ1 := hide hS1
  have HG1 := hide hg1
  have hz1 := hg1.size
  have hblt1 := hR1.lt
  have hgq := (hS1.cap).2.2.2.2
  clear hS1 hg1 hle
  go_wp2_with fail
  refine (specSeatsFirst_any gs (some ⟨g, 0, none⟩) c ls w1 HQ1.out.ints (by omega)).mono ?_
  rintro e w2 ⟨v, rfl, hSv, hb2⟩
  obtain ⟨B, cS, rfl, _, _⟩ := hSv.form
  have hSl : (seatsFirstL gs ls).length ≤ 7 := Nat.le_trans (seatsFirstL_len gs ls) hl7
  have HSR := hide (seatsFirst_range (g := gs) hl7)
  generalize seatsFirstL gs ls = S at *
  have HQ2 := hide (HQ1.out.below hb2)
  have HG2 : Hid (w.grownBy w2 (some b)) := hide (HG1.out.trans ⟨hb2.os, hb2.tape, hb2.output, hb2.size, fun k hk _ => hb2.block k hk⟩)
  have HR2 : Hid (Rd w2 b (n + 50)) := hide (hR1.below hb2 hblt1)
  obtain ⟨L, HL⟩ : ∃ L, Hid (S.length = L) := ⟨_, hide rfl⟩
  have HS2 := hide hSv
  rw [HL.out] at HS2 hSl ⊢
  obtain ⟨Q, HQL⟩ : ∃ Q, Hid (ls.length = Q) := ⟨_, hide rfl⟩
  have hQ7 : Q ≤ 7 := by rw [← HQL.out]; exact hl7
  rw [HQL.out] at HQ2 ⊢
  clear hb2 hSv HQ1 HG1 hR1 hl7
  have hwL : IntKind.i64.wrap ((L : Int) + 1) = (L : Int) + 1 := IntWalk.i64_in _ (by omega)
  go_wp2_with fail
  go_loopw [8] (fun v wr => ∃ (k : Nat) (ss : List Int), k ≤ L ∧ v = .int .i64 k ∧ Hid (ss.length = L) ∧ Hid (∀ x ∈ ss, -1 ≤ x ∧ x ≤ 7) ∧ IntSl wr w1.heap.size (.slice B L cS) ss ∧ IntSl wr w.heap.size (.slice (some ⟨g, 0, none⟩) Q c) ls ∧ Rd wr b (n + 50 + 3 * k) ∧ w.grownBy wr (some b)) (fun v _ => L - (intOf v).toNat)
  case atStart => exact ⟨0, S, Nat.zero_le _, rfl, HL, HSR, HS2.out, HQ2.out, HR2.out.mono (by omega), HG2.out⟩
  case round =>
    clear HS2 HQ2 HR2 HG2 HSR HL
    obtain ⟨k, ss, hk, rfl, HSL, HSR, hS, hQ, hRr, hgr⟩ := hrel
    have HS := hide hS
    have HQ := hide hQ
    have HR := hide hRr
    have HG := hide hgr
    clear hS hQ hRr hgr
    by_cases hkl : k < L
    · have hkz : (k : Int) < L := by omega
      have hk0 : (0 : Int) ≤ k := by omega
      obtain ⟨G, cap, eS, hG1, hG2⟩ := IntSl.own HS.out (by rw [HSL.out]; omega)
      injection eS with e1 e2 e3
      subst e1
      clear e2 e3 hG2
      go_wp2_with fail
      refine (pick_any b _ 4 _ HR.out (by omega) (by omega)).mono ?_
      rintro e w3 ⟨q3, rfl, hq30, hq31, hR3, hg3⟩
      have HS3 := hide (HS.out.pick hblt1 hg3)
      have HQ3 := hide (HQ.out.pick hblt hg3)
      have HG3 := hide (HG.out.trans hg3)
      have HR3 := hide hR3
      clear hg3 hR3 HS HQ HG HR
      by_cases hq : q3 = 0
      · subst hq
        go_wp2_with fail
        refine (pick_any b _ ((L : Int) + 1) _ HR3.out (by omega) (by omega)).mono ?_
        rintro e w4 ⟨q4, rfl, hq40, hq41, hR4, hg4⟩
        have HS4 := hide (HS3.out.pick hblt1 hg4)
        have HQ4 := hide (HQ3.out.pick hblt hg4)
        have HG4 := hide (HG3.out.trans hg4)
        have HR4 := hide hR4
        clear hg4 hR4 HS3 HQ3 HG3 HR3
        go_wp2_with fail
        refine (pick_any b _ 20 _ HR4.out (by omega) (by omega)).mono ?_
        rintro e w5 ⟨x, rfl, hx0, hx1, hR5, hg5⟩
        have HS5 := hide (HS4.out.pick hblt1 hg5)
        have HQ5 := hide (HQ4.out.pick hblt hg5)
        have HG5 := hide (HG4.out.trans hg5)
        have HR5 := hide hR5
        clear hg5 hR5 HS4 HQ4 HG4 HR4
        obtain ⟨t, ht, ht0, ht1⟩ := tdiv19s hx0 (by omega)
        have hx19 : x ≤ 19 := by omega
        have hfz := HS5.out.frozenAt k
        obtain ⟨y, HY⟩ : ∃ y, Hid (ss[k]? = some y) := ⟨_, hide (List.getElem?_eq_getElem (by rw [HSL.out]; exact hkl))⟩
        have hcy := HS5.out.cellAt HY.out
        have hws : IntKind.i64.wrap (q4 - t) = q4 - t := IntWalk.i64_in _ (by omega)
        have g1 := IntSl.grownSet HS5.out k (q4 - t)
        have HS6 := hide (IntSl.store HS5.out k (q4 - t))
        have HQ6 := hide (IntSl.row HQ5.out g1 (.inr (fun e => by have e : some g = some G := e; injection e with e; omega)))
        have HR6 := hide (rd_grown HR5.out g1 (fun k hk => by injection hk with hk; omega))
        have HG6 := hide (grown_row HG5.out g1 (fun k hk => by injection hk with hk; omega))
        have HSL6 : Hid ((ss.set k (q4 - t)).length = L) := hide (by rw [List.length_set]; exact HSL.out)
        have HSR6 : Hid (∀ z ∈ ss.set k (q4 - t), -1 ≤ z ∧ z ≤ 7) := hide (fun z hz => by
          rcases List.mem_or_eq_of_mem_set hz with h | h
          · exact HSR.out z h
          · omega)
        clear g1
        go_wp2_with fail
        go_roundw
        case rel => exact ⟨k + 1, _, hkl, by go_num, HSL6, HSR6, HS6.out, HQ6.out, HR6.out.mono (by omega), HG6.out⟩
        case measure => simp [intOf]; omega
      · have hqb : (q3 == 0) = false := by simpa using hq
        go_wp2_with fail
        go_roundw
        case rel => exact ⟨k + 1, ss, hkl, by go_num, HSL, HSR, HS3.out, HQ3.out, HR3.out.mono (by omega), HG3.out⟩
        case measure => simp [intOf]; omega
    · go_wp2_with fail
      refine bodyPost_ret (results_tmp3 rfl _ _ _) rfl ⟨gs, ls, g, c, ss, .slice B L cS, by rw [HQL.out]; rfl, by rw [HQL.out]; exact HQ.out, by rw [HQL.out]; omega, IntSl.mono HS.out hz1, by rw [HSL.out]; omega, HSR.out, HR.out.mono (by omega), HG.out⟩
end Go.Proofs.YthbainbgimbjeaaDoor
