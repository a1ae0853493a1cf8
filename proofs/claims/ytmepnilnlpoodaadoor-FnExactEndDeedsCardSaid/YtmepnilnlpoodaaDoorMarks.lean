/- Contracts of MarksOf, of the program and of the reference model: both compute one function of the list and the index.
   Conditions: the list and each item's parts have at most 1048576 elements. -/
import Derived.Test.YtmepnilnlpoodaaDoorUses
namespace Go.Proofs.YtmepnilnlpoodaaDoor
open Go.RowKit

def marksFrom (set : Int) : Nat → List Item → Int → Int
  | _, [], m => m
  | k, x :: r, m => marksFrom set (k + 1) r (if hasB set k = true then orI m x.marks else m)

def marksL (l : List Item) (index : Int) : Int := if usesL l index < 0 then -1 else marksFrom (usesL l index) 0 l 0

theorem orI_pow {a b : Int} {m : Nat} (ha : a < 2 ^ m) (hb : b < 2 ^ m) (h0 : 0 ≤ a) (h1 : 0 ≤ b) : 0 ≤ orI a b ∧ orI a b < 2 ^ m := by
  obtain ⟨x, rfl⟩ := Int.eq_ofNat_of_zero_le h0
  obtain ⟨y, rfl⟩ := Int.eq_ofNat_of_zero_le h1
  have e : ((2 : Int) ^ m) = ((2 ^ m : Nat) : Int) := by simp
  rw [e] at ha hb ⊢
  unfold orI
  have := Nat.or_lt_two_pow (n := m) (x := x) (y := y) (by omega) (by omega)
  simp only [Int.toNat_natCast]
  omega

theorem partsSet_pow {m : Nat} : ∀ (ps : List Part) (s : Int), 0 ≤ s → s < 2 ^ m → (∀ p ∈ ps, 0 ≤ p.of ∧ p.of < m) → 0 ≤ partsSet s ps ∧ partsSet s ps < 2 ^ m
  | [], s, h0, h1, _ => ⟨h0, h1⟩
  | p :: r, s, h0, h1, hp => by
    have hq := hp p (by simp)
    have hlt : (2 : Int) ^ p.of.toNat < 2 ^ m := by
      have := Nat.pow_lt_pow_right (a := 2) (by omega) (show p.of.toNat < m by omega)
      have e : ((2 : Int) ^ m) = ((2 ^ m : Nat) : Int) := by simp
      have e' : ((2 : Int) ^ p.of.toNat) = ((2 ^ p.of.toNat : Nat) : Int) := by simp
      rw [e, e']
      omega
    have ho := orI_pow h1 hlt h0 (Int.pow_nonneg (by omega))
    exact partsSet_pow r _ ho.1 ho.2 (fun q hq => hp q (by simp [hq]))

theorem usesGo_pow {l : List Item} (hI : itemsOk l = true) {m : Nat} : ∀ (k : Nat) (s : Int), k ≤ m → k ≤ l.length → 0 ≤ s → s < 2 ^ m → 0 ≤ usesGo l k s ∧ usesGo l k s < 2 ^ m
  | 0, s, _, _, h0, h1 => ⟨h0, h1⟩
  | k + 1, s, hk, hl, h0, h1 => by
    unfold usesGo
    have hx := itemsOk_at hI (List.getElem?_eq_getElem (show k < l.length by omega))
    have e : l.getD k instItem.default = l[k] := by simp [show k < l.length by omega]
    rw [e]
    unfold stepSet
    split
    · have := partsSet_pow (m := m) l[k].parts s h0 h1 (fun p hp => by have := hx.2.2.2.2.2.2 p hp; omega)
      exact usesGo_pow hI k _ (by omega) (by omega) this.1 this.2
    · exact usesGo_pow hI k s (by omega) (by omega) h0 h1

theorem usesL_pow {l : List Item} {index : Int} (h : ¬ usesL l index < 0) : itemsOk l = true ∧ 0 ≤ index ∧ index < l.length ∧ 0 ≤ usesL l index ∧ usesL l index < 2 ^ (index.toNat + 1) := by
  unfold usesL at h ⊢
  split at h
  · rename_i hc
    rw [if_pos hc]
    simp only [Bool.and_eq_true, inR_iff] at hc
    have := usesGo_pow hc.1 (m := index.toNat + 1) (index.toNat + 1) (2 ^ index.toNat) (by omega) (by omega) (Int.pow_nonneg (by omega)) (by
      have := Nat.pow_lt_pow_right (a := 2) (by omega) (show index.toNat < index.toNat + 1 by omega)
      have e : ((2 : Int) ^ (index.toNat + 1)) = ((2 ^ (index.toNat + 1) : Nat) : Int) := by simp
      have e' : ((2 : Int) ^ index.toNat) = ((2 ^ index.toNat : Nat) : Int) := by simp
      rw [e, e']
      omega)
    exact ⟨hc.1, by omega, by omega, this⟩
  · omega

theorem usesL_range {l : List Item} {index : Int} (h : ¬ usesL l index < 0) : 0 ≤ usesL l index ∧ usesL l index < 64 := by
  obtain ⟨hI, h0, h1, h2, h3⟩ := usesL_pow h
  have hl := itemsOk_len hI
  refine ⟨h2, Int.lt_of_lt_of_le h3 ?_⟩
  have := Nat.pow_le_pow_right (n := 2) (by omega) (show index.toNat + 1 ≤ 6 by omega)
  have e : ((2 : Int) ^ (index.toNat + 1)) = ((2 ^ (index.toNat + 1) : Nat) : Int) := by simp
  rw [e]
  omega

theorem usesL_neg {l : List Item} {index : Int} (h : usesL l index < 0) : usesL l index = -1 := by
  by_cases hc : (itemsOk l && inR index 0 ((l.length : Int) - 1)) = true
  · unfold usesL at h ⊢
    rw [if_pos hc] at h ⊢
    simp only [Bool.and_eq_true, inR_iff] at hc
    have := (usesGo_pow hc.1 (m := index.toNat + 1) (index.toNat + 1) (2 ^ index.toNat) (by omega) (by omega) (Int.pow_nonneg (by omega)) (by
      have := Nat.pow_lt_pow_right (a := 2) (by omega) (show index.toNat < index.toNat + 1 by omega)
      have e : ((2 : Int) ^ (index.toNat + 1)) = ((2 ^ (index.toNat + 1) : Nat) : Int) := by simp
      have e' : ((2 : Int) ^ index.toNat) = ((2 ^ index.toNat : Nat) : Int) := by simp
      rw [e, e']
      omega)).1
    omega
  · unfold usesL
    rw [if_neg hc]

theorem hasB_high {s : Int} {m k : Nat} (h0 : 0 ≤ s) (h1 : s < 2 ^ m) (hk : m ≤ k) : hasB s k = false := by
  rw [hasB_iff k h0]
  apply Nat.testBit_lt_two_pow
  have e : ((2 : Int) ^ m) = ((2 ^ m : Nat) : Int) := by simp
  rw [e] at h1
  have := Nat.pow_le_pow_right (n := 2) (by omega) hk
  omega

theorem marksFrom_high {s : Int} {m : Nat} (h0 : 0 ≤ s) (h1 : s < 2 ^ m) : ∀ (l : List Item) (k : Nat) (a : Int), m ≤ k → marksFrom s k l a = a
  | [], _, _, _ => rfl
  | x :: r, k, a, hk => by
    unfold marksFrom
    rw [hasB_high h0 h1 hk, if_neg (by simp)]
    exact marksFrom_high h0 h1 r (k + 1) a (by omega)

set_option maxHeartbeats 1000000 in
theorem implMarksOf_any (A : Option Addr) (c : Nat) (l : List Item) (index : Int) (w : World) (hA : ItemsAt w A l) (hl : l.length ≤ 1048576) (hp : ∀ x ∈ l, x.parts.length ≤ 1048576) :
    Calls Tryd.prog 121 #[.slice A l.length c, .int .i64 index] w fun e w' => e = .returned (.int .i64 (marksL l index)) ∧ Below w.heap.size w w' := by
  have HP := hide hp
  clear hp
  by_cases hu : usesL l index < 0
  · have HR : Hid (marksL l index = -1) := by unfold marksL; rw [if_pos hu]; exact hide rfl
    go_enter Tryd.func121, Tryd.ntmps121
    go_wp2_with fail
    refine (implUsesOf_any _ _ _ _ _ hA hl HP.out).mono ?_
    rintro e w1 ⟨rfl, hB⟩
    go_wp2_with fail
    go_ret
    exact ⟨by rw [HR.out]; rfl, hB⟩
  · have hur := usesL_range hu
    have HI := hide (usesL_pow hu).1
    have hl6 := itemsOk_len HI.out
    have hu0 := hur.1
    have hu1 := hur.2
    have HR : Hid (marksL l index = marksFrom (usesL l index) 0 l 0) := by unfold marksL; rw [if_neg hu]; exact hide rfl
    clear hur
    go_enter Tryd.func121, Tryd.ntmps121
    go_wp2_with fail
    refine (implUsesOf_any _ _ _ _ _ hA hl HP.out).mono ?_
    rintro e w1 ⟨rfl, hB⟩
    have hsz1 := hB.size
    generalize usesL l index = s at *
    go_wp2_with fail
    go_loopw [6, 16] (fun mv i wr => ∃ (m : Int) (k : Nat), k ≤ l.length ∧ 0 ≤ m ∧ m < 64 ∧ mv = .int .i64 m ∧ i = .int .i64 k ∧ Hid (marksL l index = marksFrom s k (l.drop k) m) ∧ Below w.heap.size w wr) (fun _ i _ => l.length - (intOf i).toNat)
    case atStart => exact ⟨0, 0, by omega, by omega, by omega, rfl, rfl, HR, hB⟩
    case round =>
      obtain ⟨m, k, hk, hm0, hm1, rfl, rfl, HG, hb⟩ := hrel
      have hsz := hb.size
      by_cases hlt : k < l.length
      · obtain ⟨b, off, B, d, rfl, hbl, hc1, hc2, hc3, hpa⟩ := (hA.below hb) k l[k] (List.getElem?_eq_getElem hlt)
        have HD : Hid (l.drop k = l[k] :: l.drop (k + 1)) := hide (List.drop_eq_getElem_cons hlt)
        have hx := itemsOk_at HI.out (List.getElem?_eq_getElem hlt)
        generalize l[k] = x at *
        have hx0 : 0 ≤ x.marks := hx.1
        have hx1 : x.marks ≤ 31 := hx.2.1
        clear hx
        have hz : (0 : Int) ≤ k := by omega
        have hz2 : (k : Int) < l.length := by omega
        have HK := hide (Int.toNat_natCast k)
        cases hh : hasB s k with
        | false =>
          have HH := hide hh
          have HU : Hid (marksL l index = marksFrom s (k + 1) (l.drop (k + 1)) m) := hide (by rw [HG.out, HD.out, marksFrom, hh, if_neg (by simp)])
          clear hh
          go_wp2_with fail
          refine (inSet_any _ _ _ hu0 hu1 hz (by omega)).mono ?_
          rintro e w3 ⟨rfl, rfl⟩
          rw [HK.out, HH.out]
          go_wp2_with fail
          go_roundw
          case rel => exact ⟨m, k + 1, hlt, hm0, hm1, rfl, by go_num, HU, by go_grown⟩
          case measure => simp [intOf]; omega
        | true =>
          have HH := hide hh
          have HU : Hid (marksL l index = marksFrom s (k + 1) (l.drop (k + 1)) (orI m x.marks)) := hide (by rw [HG.out, HD.out, marksFrom, hh, if_pos rfl])
          have HO := hide (or_all' m x.marks hm0 hm1 hx0 (by omega))
          have ho := orI_lt (a := m) (b := x.marks) hm1 (by omega)
          clear hh
          go_wp2_with fail
          refine (inSet_any _ _ _ hu0 hu1 hz (by omega)).mono ?_
          rintro e w3 ⟨rfl, rfl⟩
          rw [HK.out, HH.out]
          go_wp2_with fail
          go_roundw
          case rel => exact ⟨_, k + 1, hlt, ho.1, ho.2, by rw [HO.out], by go_num, HU, by go_grown⟩
          case measure => simp [intOf]; omega
      · have HE : Hid (marksL l index = m) := hide (by rw [HG.out, List.drop_of_length_le (by omega)]; rfl)
        go_wp2_with fail
        go_ret
        exact ⟨by rw [HE.out]; rfl, hb⟩

set_option maxHeartbeats 1000000 in
theorem specMarksOf_any (A : Option Addr) (c : Nat) (l : List Item) (index : Int) (w : World) (hA : ItemsAt w A l) (hl : l.length ≤ 1048576) (hp : ∀ x ∈ l, x.parts.length ≤ 1048576) :
    Calls Tryd.prog 94 #[.slice A l.length c, .int .i64 index] w fun e w' => e = .returned (.int .i64 (marksL l index)) ∧ Below w.heap.size w w' := by
  have HP := hide hp
  clear hp
  by_cases hu : usesL l index < 0
  · have HR : Hid (marksL l index = -1) := by unfold marksL; rw [if_pos hu]; exact hide rfl
    go_enter Tryd.func94, Tryd.ntmps94
    go_wp2_with fail
    refine (specUsesOf_any _ _ _ _ _ hA hl HP.out).mono ?_
    rintro e w1 ⟨rfl, hB⟩
    go_wp2_with fail
    go_ret
    exact ⟨by rw [HR.out]; rfl, hB⟩
  · have hur := usesL_range hu
    obtain ⟨hI, hi0, hi1, -, hup⟩ := usesL_pow hu
    have HI := hide hI
    have HUP := hide hup
    have hl6 := itemsOk_len hI
    have hu0 := hur.1
    have hu1 := hur.2
    have HR : Hid (marksL l index = marksFrom (usesL l index) 0 l 0) := by unfold marksL; rw [if_neg hu]; exact hide rfl
    clear hur hI hup
    go_enter Tryd.func94, Tryd.ntmps94
    go_wp2_with fail
    refine (specUsesOf_any _ _ _ _ _ hA hl HP.out).mono ?_
    rintro e w1 ⟨rfl, hB⟩
    have hsz1 := hB.size
    generalize usesL l index = s at *
    go_wp2_with fail
    go_loopw [6, 7] (fun mv i wr => ∃ (m : Int) (k : Nat), k ≤ index + 1 ∧ 0 ≤ m ∧ m < 64 ∧ mv = .int .i64 m ∧ i = .int .i64 k ∧ Hid (marksL l index = marksFrom s k (l.drop k) m) ∧ Below w.heap.size w wr) (fun _ i _ => l.length - (intOf i).toNat)
    case atStart => exact ⟨0, 0, by omega, by omega, by omega, rfl, rfl, HR, hB⟩
    case round =>
      obtain ⟨m, k, hk, hm0, hm1, rfl, rfl, HG, hb⟩ := hrel
      have hsz := hb.size
      by_cases hle : (k : Int) ≤ index
      · have hlt : k < l.length := by omega
        obtain ⟨b, off, B, d, rfl, hbl, hc1, hc2, hc3, hpa⟩ := (hA.below hb) k l[k] (List.getElem?_eq_getElem hlt)
        have HD : Hid (l.drop k = l[k] :: l.drop (k + 1)) := hide (List.drop_eq_getElem_cons hlt)
        have hx := itemsOk_at HI.out (List.getElem?_eq_getElem hlt)
        generalize l[k] = x at *
        have hx0 : 0 ≤ x.marks := hx.1
        have hx1 : x.marks ≤ 31 := hx.2.1
        clear hx
        have hz : (0 : Int) ≤ k := by omega
        have hz2 : (k : Int) < l.length := by omega
        have hd := (div_range s k hu0 hu1).1
        cases hh : hasB s k with
        | false =>
          have HU : Hid (marksL l index = marksFrom s (k + 1) (l.drop (k + 1)) m) := hide (by rw [HG.out, HD.out, marksFrom, hh, if_neg (by simp)])
          have hf : (s / 2 ^ k % 2 == 1) = false := hh
          clear hh
          go_wp2_with fail
          go_roundw
          case rel => exact ⟨m, k + 1, by omega, hm0, hm1, rfl, by go_num, HU, hb⟩
          case measure => simp [intOf]; omega
        | true =>
          have HU : Hid (marksL l index = marksFrom s (k + 1) (l.drop (k + 1)) (orI m x.marks)) := hide (by rw [HG.out, HD.out, marksFrom, hh, if_pos rfl])
          have ho := orI_lt (a := m) (b := x.marks) hm1 (by omega)
          have hf : (s / 2 ^ k % 2 == 1) = true := hh
          clear hh
          go_wp2_with fail
          refine (l1Join_any _ _ _ hm0 hm1 hx0 (by omega)).mono ?_
          rintro e w3 ⟨rfl, rfl⟩
          go_wp2_with fail
          go_roundw
          case rel => exact ⟨_, k + 1, by omega, ho.1, ho.2, rfl, by go_num, HU, hb⟩
          case measure => simp [intOf]; omega
      · have HE : Hid (marksL l index = m) := hide (by rw [HG.out]; exact marksFrom_high hu0 HUP.out _ _ _ (by omega))
        go_wp2_with fail
        go_ret
        exact ⟨by rw [HE.out]; rfl, hb⟩
end Go.Proofs.YtmepnilnlpoodaaDoor
