/- Contract of ItemText of the program: for each item it tells a text that a plain function of the item tells.
   Conditions: at most 1048576 parts. -/
import Derived.Test.YtaelapimchmbcaaDoorUses
import Derived.Test.YtaelapimchmbcaaDoorSh
import Derived.StillTailTactics
import Derived.IntWalk
namespace Go.Proofs.YtaelapimchmbcaaDoor
open Go.RowKit

theorem still_tail_call {P : Program} {id : Nat} {Q : Exit → Act → World → Prop} {a : Act} {w : World} {l : List Oper} (n : Nat) (hm : P.follows .mixedOrders = true) (hB : Region.lexTailB .any l.toArray n = true)
    (h : wpStill P l.toArray w.drew (fun a' => wpList P l.toArray Q (l.drop n) a' w.drew) (l.take n) a) : (Code.region id l.toArray true).wp P Q a w := wp_region_still_tail n hm hB h

def decD (n : Int) : List UInt8 := Lib.decDigits n.toNat
theorem decD_len {n : Int} (h1 : n < 100) : (decD n).length ≤ 2 := by
  unfold decD
  unfold Lib.decDigits
  split
  · simp
  · unfold Lib.decDigits
    rw [dif_pos (by omega)]
    simp
theorem add_lists (x y : List UInt8) (h : x.length + y.length ≤ 9223372036854775807) (w : World) : (Op.stringOp .add ⟨x.toArray⟩ ⟨y.toArray⟩).run Tryd.prog w = .ok (.string ⟨(x ++ y).toArray⟩) w := by
  rw [run_string_add_sum w _ _ (by simpa [ByteArray.size] using h), ByteArray.mk_append_mk]
def partText (p : Part) : List UInt8 := decD p.of ++ 42 :: decD p.many
def str (l : List UInt8) : Value := .string ⟨l.toArray⟩
def itemTextL (x : Item) : List UInt8 := if itemOk x 5 = true then decD x.yield ++ 61 :: (Lib.join (x.parts.map partText) [44] ++ 33 :: decD x.marks) else []

theorem itoa_any (n : Int) (h0 : 0 ≤ n) (h1 : n < 100) (w : World) :
    Calls Tryd.prog 23 #[.int .i64 n] w fun e w' => e = .returned (.string ⟨(decD n).toArray⟩) ∧ w' = w := by
  obtain ⟨k, rfl⟩ : ∃ k : Nat, n = k := ⟨n.toNat, by omega⟩
  exact Tryd.strconv_Itoa_small k (by omega) w

theorem infoS : (Tryd.prog.info? 9).map (fun i => (i.zero, i.size, i.bytes)) = some (some (.string ⟨#[]⟩), 1, 16) := by kernel_rfl

theorem make_strings (n : Nat) (hn : n ≤ 1048576) (w : World) :
    (Instr.makeSlice 46 (.int .i64 (n : Int)) (.int .i64 (n : Int))).run Tryd.prog w = .ok (.slice (some ⟨w.heap.size, 0, none⟩) n n) (w.alloc (.cells (madeCells #[.string ⟨#[]⟩] n) 9)) :=
  run_make_row' 46 9 (.string ⟨#[]⟩) 16 Tryd.underlying46 infoS rfl .i64 .i64 n (by omega) (by omega) w

theorem itemOk_at {x : Item} (h : itemOk x 5 = true) : (0 ≤ x.yield ∧ x.yield ≤ 6 ∧ 0 ≤ x.marks ∧ x.marks ≤ 31 ∧ x.parts.length ≤ 3) ∧ ∀ p ∈ x.parts, 0 ≤ p.of ∧ p.of < 5 ∧ 1 ≤ p.many ∧ p.many ≤ 6 := by
  unfold itemOk at h
  simp only [Bool.and_eq_true, inR_iff] at h
  obtain ⟨⟨m0, m1⟩, h2⟩ := h
  split at h2
  · rename_i hy
    have hn : x.parts = [] := by simpa using h2
    exact ⟨⟨by omega, by omega, m0, m1, by simp [hn]⟩, fun p hp => by simp [hn] at hp⟩
  · simp only [Bool.and_eq_true, inR_iff] at h2
    obtain ⟨⟨y0, y1⟩, h3⟩ := h2
    unfold partsFitL at h3
    simp only [Bool.and_eq_true, inR_iff] at h3
    exact ⟨⟨by omega, by omega, m0, m1, by omega⟩, fun p hp => partsGo_mem h3.2 (by omega) p hp⟩

theorem partText_len {p : Part} (h : p.of < 100 ∧ p.many < 100) : (partText p).length ≤ 5 := by
  have a := decD_len h.1
  have b := decD_len h.2
  unfold partText
  simp
  omega

theorem lens_parts : ∀ {ps : List Part}, (∀ p ∈ ps, p.of < 100 ∧ p.many < 100) → Lib.lens (ps.map partText) ≤ 5 * ps.length
  | [], _ => by simp [Lib.lens]
  | q :: r, h => by
    have a := partText_len (h q (by simp))
    have b := lens_parts (ps := r) (fun p hp => h p (by simp [hp]))
    simp only [Lib.lens, List.map_cons, List.sum_cons, List.length_cons] at b ⊢
    omega

theorem join_len {ps : List Part} (h3 : ps.length ≤ 3) (hp : ∀ p ∈ ps, p.of < 100 ∧ p.many < 100) : (Lib.join (ps.map partText) [44]).length ≤ 1000 := by
  cases ps with
  | nil => simp [Lib.join_nil]
  | cons q r =>
    have a := lens_parts hp
    rw [List.map_cons] at a ⊢
    rw [Lib.join_length]
    simp only [List.length_cons, List.length_map, List.length_nil] at *
    omega

set_option maxRecDepth 100000 in
set_option maxHeartbeats 1000000 in
theorem implItemText_any (A : Option Addr) (c : Nat) (x : Item) (w : World) (hps : PartsAt w A x.parts) (hl : x.parts.length ≤ 1048576) :
    Calls Tryd.prog 8 #[.agg #[.int .i64 x.yield, .slice A x.parts.length c, .int .i64 x.marks]] w fun e w' => e = .returned (.string ⟨(itemTextL x).toArray⟩) ∧ Below w.heap.size w w' := by
  cases hI : itemOk x 5 with
  | false =>
    have HI := hide hI
    have HR : Hid (itemTextL x = []) := by unfold itemTextL; rw [hI]; exact hide rfl
    clear hI
    go_enter Tryd.func8, Tryd.ntmps8
    go_wp2_with fail
    refine (itemFits_any _ _ _ _ _ (hps.below (by go_grown)) (by omega) (by omega) hl).mono ?_
    rintro e w1 ⟨rfl, hB⟩
    rw [HI.out]
    have hb : Below w.heap.size w w1 := Below.trans (by go_grown) (hB.mono (by simp))
    go_wp2_with fail
    go_ret
    exact ⟨by rw [HR.out]; rfl, hb⟩
  | true =>
    have HI := hide hI
    have hmk := make_strings x.parts.length hl
    clear hI
    go_enter Tryd.func8, Tryd.ntmps8
    go_wp2_with fail
    refine (itemFits_any _ _ _ _ _ (hps.below (by go_grown)) (by omega) (by omega) hl).mono ?_
    rintro e w1 ⟨rfl, hB⟩
    rw [HI.out]
    have hb : Below w.heap.size w w1 := Below.trans (by go_grown) (hB.mono (by simp))
    have hc : ∀ o, w1.cell? ⟨w.heap.size, o, none⟩ = _ := fun o => hB.cell (p := ⟨w.heap.size, o, none⟩) (by simp)
    have hc0 : w1.cell? ⟨w.heap.size, 0, none⟩ = some (.int .i64 x.yield) := by rw [hc]; simp
    have hc1 : w1.cell? ⟨w.heap.size, 1, none⟩ = some (.slice A x.parts.length c) := by rw [hc]; simp
    have hc2 : w1.cell? ⟨w.heap.size, 2, none⟩ = some (.int .i64 x.marks) := by rw [hc]; simp
    have hsz := hB.size
    simp only [World.size_alloc] at hsz
    have hszl : w.heap.size < w1.heap.size := by omega
    clear hc hB hsz
    go_wp2_with fail
    clear hmk
    go_loopw [16] (fun i wr => ∃ k : Nat, k ≤ x.parts.length ∧ i = .int .i64 k ∧ wr.rowIs w1.heap.size 9 x.parts.length (fun j => if j < k then str (partText (x.parts.getD j ⟨0, 0⟩)) else str []) ∧ Below w1.heap.size w1 wr) (fun i _ => x.parts.length - (intOf i).toNat)
    case atStart => exact ⟨0, Nat.zero_le _, rfl, (World.rowIs_made _ _ _ _).congr (fun i hi => by simp [str]), by go_grown⟩
    case round =>
      obtain ⟨k, hk, rfl, hrow, hbr⟩ := hrel
      have hsz := hbr.size
      obtain ⟨⟨hy0, hy1', hm0, hm1', -⟩, -⟩ := itemOk_at HI.out
      have hy1 : x.yield < 100 := by omega
      have hm1 : x.marks < 100 := by omega
      obtain ⟨J, HJL⟩ : ∃ J, Hid (Lib.join (x.parts.map partText) [44] = J) := ⟨_, hide rfl⟩
      have hJl : J.length ≤ 1000 := by rw [← HJL.out]; exact join_len (itemOk_at HI.out).1.2.2.2.2 (fun p hp => by have := (itemOk_at HI.out).2 p hp; omega)
      by_cases hlt : k < x.parts.length
      · obtain ⟨b, off, rfl, hbl, hp1, hp2⟩ := ((hps.below hb).below hbr) k x.parts[k] (List.getElem?_eq_getElem hlt)
        have HP : Hid (x.parts.getD k ⟨0, 0⟩ = x.parts[k]) := hide (by simp [hlt])
        have hpp := (itemOk_at HI.out).2 _ (List.getElem_mem hlt)
        generalize x.parts[k] = p at *
        have hz : (0 : Int) ≤ k := by omega
        have hz2 : (k : Int) < x.parts.length := by omega
        have hq1 := hrow.cell hlt
        have hf := hrow.frozen
        have hglt := hrow.lt
        obtain ⟨hpp0, hpp1, hpp2, hpp3⟩ := hpp
        have hd1 := decD_len (n := p.of) (by omega)
        have hd2 := decD_len (n := p.many) (by omega)
        have ha1 := add_lists (decD p.of) [42] (by simp; omega)
        have ha2 := add_lists (decD p.of ++ [42]) (decD p.many) (by simp; omega)
        go_wp2_with fail
        refine still_tail_call 11 (by kernel_rfl) (by kernel_rfl) ?_
        simp only [List.take_succ_cons, List.take_zero, List.drop_succ_cons, List.drop_zero]
        repeat (first | still_step | still_call (itoa_any p.of (by omega) (by omega) _) | still_call (itoa_any p.many (by omega) (by omega) _))
        refine wpStill_nil ?_
        have HNX : Hid ((wr.setCell ⟨w1.heap.size, k, none⟩ (str (decD p.of ++ 42 :: decD p.many))).rowIs w1.heap.size 9 x.parts.length (fun j => if j < k + 1 then str (partText (x.parts.getD j ⟨0, 0⟩)) else str [])) := hide ((hrow.set k _).congr (fun j hj => by
          by_cases e : j = k
          · subst e
            rw [if_pos rfl, if_pos (by omega), HP.out]
            rfl
          · rw [if_neg e]
            by_cases e2 : j < k
            · rw [if_pos e2, if_pos (by omega)]
            · rw [if_neg e2, if_neg (by omega)]))
        clear hrow ha1 ha2
        go_wp2_with fail
        go_roundw
        case rel => exact ⟨k + 1, hlt, by go_num, HNX.out.alloc _, by go_grown⟩
        case measure => simp [intOf]; omega
      · have hd1 := decD_len hy1
        have hd2 := decD_len hm1
        have ha1 := add_lists (decD x.yield) [61] (by simp; omega)
        have ha2 := add_lists (decD x.yield ++ [61]) J (by simp; omega)
        have ha3 := add_lists (decD x.yield ++ 61 :: J) [33] (by simp; omega)
        have ha4 := add_lists (decD x.yield ++ 61 :: (J ++ [33])) (decD x.marks) (by simp; omega)
        simp only [List.append_assoc, List.cons_append, List.nil_append] at ha1 ha2 ha3 ha4
        obtain rfl : k = x.parts.length := by omega
        have HR : Hid (itemTextL x = decD x.yield ++ 61 :: (J ++ 33 :: decD x.marks)) := hide (by unfold itemTextL; rw [if_pos HI.out, HJL.out])
        have HJ : Hid (Calls Tryd.prog 24 #[.slice (some ⟨w1.heap.size, 0, none⟩) x.parts.length x.parts.length, .string ⟨#[44]⟩] wr.drew fun e w' => e = .returned (.string ⟨J.toArray⟩) ∧ Below wr.drew.heap.size wr.drew w') := hide (by
          have e1 : (x.parts.map (fun p => (⟨(partText p).toArray⟩ : ByteArray))).length = x.parts.length := by simp
          have e2 : ((x.parts.map (fun p => (⟨(partText p).toArray⟩ : ByteArray))).map (·.data.toList)) = x.parts.map partText := by simp
          have := Tryd.strings_Join w1.heap.size 0 x.parts.length (x.parts.map (fun p => (⟨(partText p).toArray⟩ : ByteArray))) ⟨#[44]⟩ wr.drew (fun j y hy => by
            have hj : j < x.parts.length := by
              have := (List.getElem?_eq_some_iff.1 hy).1
              simpa using this
            have hc := hrow.cell hj
            rw [if_pos hj] at hc
            rw [List.getElem?_map, List.getElem?_eq_getElem hj] at hy
            have hy' : (⟨(partText x.parts[j]).toArray⟩ : ByteArray) = y := by simpa using hy
            rw [← hy', Nat.zero_add]
            refine Eq.trans hc ?_
            simp [str, hj]) hrow.lt (by rw [e1]; omega) (by rw [e1]; omega) (by rw [e2, show Lib.join (x.parts.map partText) ((⟨#[44]⟩ : ByteArray).data.toList) = J from HJL.out]; omega)
          rw [e1, e2, show Lib.join (x.parts.map partText) ((⟨#[44]⟩ : ByteArray).data.toList) = J from HJL.out] at this
          exact this)
        clear hrow
        go_wp2_with fail
        go_region_held3 (fun W => W.cell? ⟨w.heap.size, 0, none⟩ = some (.int .i64 x.yield) ∧ W.cell? ⟨w.heap.size, 2, none⟩ = some (.int .i64 x.marks))
          (first | exact ⟨(hbr.cell hszl).trans hc0, (hbr.cell hszl).trans hc2⟩ | exact ⟨((hbr.drew.trans (hB2.mono hsz)).cell hszl).trans hc0, ((hbr.drew.trans (hB2.mono hsz)).cell hszl).trans hc2⟩)
          (first | (go_at_call 23; (with_reducible refine (itoa_any x.yield hy0 hy1 _).mono ?_); rintro e W1 ⟨rfl, rfl⟩) | (go_at_call 23; (with_reducible refine (itoa_any x.marks hm0 hm1 _).mono ?_); rintro e W3 ⟨rfl, rfl⟩) | (go_at_call 24; refine HJ.out.mono ?_; rintro e W2 ⟨rfl, hB2⟩))
        all_goals
          have hb2 := next hb (next hbr.drew hB2)
          go_wp2_with fail
          go_ret
          exact ⟨by rw [HR.out]; rfl, hb2⟩
end Go.Proofs.YtaelapimchmbcaaDoor
