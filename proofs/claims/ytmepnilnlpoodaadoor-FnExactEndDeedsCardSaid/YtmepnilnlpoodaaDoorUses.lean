/- Contracts of UsesOf, of the program and of the reference model: both compute one function of the list and the index.
   Conditions: the list and each item's parts have at most 1048576 elements. -/
import Derived.Test.YtmepnilnlpoodaaDoorBits
namespace Go.Proofs.YtmepnilnlpoodaaDoor
open Go.RowKit

instance instPart : Inhabited Part := ⟨⟨0, 0⟩⟩
instance instItem : Inhabited Item := ⟨⟨0, [], 0⟩⟩

def partsSet : Int → List Part → Int
  | s, [] => s
  | s, p :: r => partsSet (orI s (2 ^ p.of.toNat)) r

def stepSet (x : Item) (k : Nat) (s : Int) : Int := if hasB s k = true then partsSet s x.parts else s

def usesGo (l : List Item) : Nat → Int → Int
  | 0, s => s
  | k + 1, s => usesGo l k (stepSet (l.getD k instItem.default) k s)

def usesL (l : List Item) (index : Int) : Int :=
  if (itemsOk l && inR index 0 ((l.length : Int) - 1)) = true then usesGo l (index.toNat + 1) (2 ^ index.toNat) else -1

theorem partsGo_mem {index : Int} : ∀ {ps : List Part} {least : Int}, partsGo index least ps = true → 0 ≤ least → ∀ p ∈ ps, 0 ≤ p.of ∧ p.of < index ∧ 1 ≤ p.many ∧ p.many ≤ 6
  | [], _, _, _, p, hp => by simp at hp
  | q :: r, least, h, h0, p, hp => by
    unfold partsGo at h
    simp only [Bool.and_eq_true, inR_iff] at h
    obtain ⟨⟨a, b⟩, ⟨c, d⟩, e⟩ := h
    rcases List.mem_cons.1 hp with rfl | hp
    · omega
    · exact partsGo_mem e (by omega) p hp

theorem itemsGo_at {l : List Item} : ∀ {k : Int}, itemsGo k l = true → ∀ (i : Nat) (x : Item), l[i]? = some x → itemOk x (k + i) = true := by
  induction l with
  | nil => intro k _ i x hx; simp at hx
  | cons y r ih =>
    intro k h i x hx
    unfold itemsGo at h
    simp only [Bool.and_eq_true] at h
    cases i with
    | zero =>
      obtain rfl : y = x := by simpa using hx
      simpa using h.1
    | succ i =>
      have := ih h.2 i x (by simpa using hx)
      rw [show k + ((i + 1 : Nat) : Int) = k + 1 + i from by omega]
      exact this

theorem itemsOk_len {l : List Item} (h : itemsOk l = true) : l.length ≤ 6 := by
  unfold itemsOk at h
  simp only [Bool.and_eq_true, decide_eq_true_eq] at h
  exact h.1

theorem itemsOk_at {l : List Item} (h : itemsOk l = true) {i : Nat} {x : Item} (hx : l[i]? = some x) :
    0 ≤ x.marks ∧ x.marks ≤ 31 ∧ 0 ≤ x.yield ∧ x.yield ≤ 6 ∧ x.parts.length ≤ 3 ∧ (x.yield = 0 ↔ x.parts = []) ∧ ∀ p ∈ x.parts, 0 ≤ p.of ∧ p.of < i ∧ 1 ≤ p.many ∧ p.many ≤ 6 := by
  unfold itemsOk at h
  simp only [Bool.and_eq_true] at h
  have h1 := itemsGo_at h.2 i x hx
  rw [Int.zero_add] at h1
  unfold itemOk at h1
  simp only [Bool.and_eq_true, inR_iff] at h1
  obtain ⟨⟨m0, m1⟩, h2⟩ := h1
  split at h2
  · rename_i hy
    have hn : x.parts = [] := by simpa using h2
    refine ⟨m0, m1, by omega, by omega, by simp [hn], ⟨fun _ => hn, fun _ => hy⟩, fun p hp => by simp [hn] at hp⟩
  · rename_i hy
    unfold partsFitL at h2
    simp only [Bool.and_eq_true, inR_iff] at h2
    obtain ⟨⟨y0, y1⟩, ⟨n0, n1⟩, h3⟩ := h2
    refine ⟨m0, m1, by omega, by omega, by omega, ⟨fun e => absurd e hy, fun e => by rw [e] at n0; simp at n0⟩, partsGo_mem h3 (by omega)⟩

theorem pow_range : ∀ n : Nat, n < 6 → (1 : Int) ≤ 2 ^ n ∧ (2 : Int) ^ n < 64 := by
  intro n hn
  match n, hn with
  | 0, _ => decide
  | 1, _ => decide
  | 2, _ => decide
  | 3, _ => decide
  | 4, _ => decide
  | 5, _ => decide

theorem wrap_pow (n : Nat) (hn : n < 6) : wrap64 (2 ^ n) = 2 ^ n := IntWalk.wrap64_in _ (by have := pow_range n hn; omega)

theorem hasB_iff {s : Int} (k : Nat) (h0 : 0 ≤ s) : hasB s k = s.toNat.testBit k := by
  obtain ⟨n, rfl⟩ := Int.eq_ofNat_of_zero_le h0
  unfold hasB
  rw [Int.toNat_natCast, Nat.testBit_eq_decide_div_mod_eq, Bool.eq_iff_iff]
  have e : ((n : Int) / 2 ^ k) = ((n / 2 ^ k : Nat) : Int) := by rw [Int.natCast_ediv]; simp
  rw [e]
  simp only [beq_iff_eq, decide_eq_true_eq]
  omega

theorem hasB_or {s t : Int} {k : Nat} (h0 : 0 ≤ s) (h : hasB s k = true) : hasB (orI s t) k = true := by
  rw [hasB_iff k h0] at h
  rw [hasB_iff k (by unfold orI; omega)]
  unfold orI
  rw [Int.toNat_natCast, Nat.testBit_or, h, Bool.true_or]

theorem partsSet_range : ∀ (ps : List Part) (s : Int), 0 ≤ s → s < 64 → (∀ p ∈ ps, 0 ≤ p.of ∧ p.of < 6) → 0 ≤ partsSet s ps ∧ partsSet s ps < 64
  | [], s, h0, h1, _ => ⟨h0, h1⟩
  | p :: r, s, h0, h1, hp => by
    have hq := hp p (by simp)
    have := pow_range p.of.toNat (by omega)
    have ho := orI_lt h1 this.2
    exact partsSet_range r _ ho.1 ho.2 (fun q hq => hp q (by simp [hq]))

set_option maxHeartbeats 1000000 in
theorem implUsesOf_any (A : Option Addr) (c : Nat) (l : List Item) (index : Int) (w : World) (hA : ItemsAt w A l) (hl : l.length ≤ 1048576) (hp : ∀ x ∈ l, x.parts.length ≤ 1048576) :
    Calls Tryd.prog 143 #[.slice A l.length c, .int .i64 index] w fun e w' => e = .returned (.int .i64 (usesL l index)) ∧ Below w.heap.size w w' := by
  have HP := hide hp
  clear hp
  cases hI : itemsOk l with
  | false =>
    have HI := hide hI
    have HR : Hid (usesL l index = -1) := by unfold usesL; rw [hI]; exact hide rfl
    clear hI
    go_enter Tryd.func143, Tryd.ntmps143
    go_wp2_with fail
    refine (implItemsValid_any _ _ _ _ hA hl HP.out).mono ?_
    rintro e w1 ⟨rfl, hB⟩
    rw [HI.out]
    go_wp2_with fail
    go_ret
    exact ⟨by rw [HR.out]; rfl, hB⟩
  | true =>
    have HI := hide hI
    have hl6 := itemsOk_len hI
    cases hR : inR index 0 ((l.length : Int) - 1) with
    | false =>
      have HQ := hide hR
      have HR : Hid (usesL l index = -1) := by unfold usesL; rw [hI, hR]; exact hide rfl
      clear hI hR
      go_enter Tryd.func143, Tryd.ntmps143
      go_wp2_with fail
      refine (implItemsValid_any _ _ _ _ hA hl HP.out).mono ?_
      rintro e w1 ⟨rfl, hB⟩
      rw [HI.out]
      go_wp2_with fail
      refine (inRange_is _ _ _ _ HQ _).mono ?_
      rintro e w2 ⟨rfl, rfl⟩
      go_wp2_with fail
      go_ret
      exact ⟨by rw [HR.out]; rfl, hB⟩
    | true =>
      have HQ := hide hR
      have HR : Hid (usesL l index = usesGo l (index.toNat + 1) (2 ^ index.toNat)) := by unfold usesL; rw [hI, hR]; exact hide rfl
      have hi := inR_iff.1 hR
      have hi0 : 0 ≤ index := hi.1
      have hi1 : index < 6 := by omega
      have HW := hide (wrap_pow index.toNat (by omega))
      have hpw := pow_range index.toNat (by omega)
      have HPW := hide hpw
      clear hI hR hi hpw
      go_enter Tryd.func143, Tryd.ntmps143
      go_wp2_with fail
      refine (implItemsValid_any _ _ _ _ hA hl HP.out).mono ?_
      rintro e w1 ⟨rfl, hB⟩
      rw [HI.out]
      go_wp2_with fail
      refine (inRange_is _ _ _ _ HQ _).mono ?_
      rintro e w2 ⟨rfl, rfl⟩
      have hsz1 := hB.size
      go_wp2_with fail
      go_loopw [5, 6] (fun sv i wr => ∃ s k : Int, -1 ≤ k ∧ k < 6 ∧ k < l.length ∧ 0 ≤ s ∧ s < 64 ∧ sv = .int .i64 s ∧ i = .int .i64 k ∧ Hid (usesL l index = usesGo l (k + 1).toNat s) ∧ Below w.heap.size w wr) (fun _ i _ => (intOf i + 1).toNat)
      case atStart => exact ⟨2 ^ index.toNat, index, by omega, hi1, by have := inR_iff.1 HQ.out; omega, by have := HPW.out; omega, HPW.out.2, by rw [HW.out], rfl, by rw [HR.out, show (index + 1).toNat = index.toNat + 1 from by omega]; exact hide rfl, hB⟩
      case round =>
        obtain ⟨s, k, hk0, hk1, hk2, hs0, hs1, rfl, rfl, HG, hb⟩ := hrel
        have hsz := hb.size
        by_cases hge : 0 ≤ k
        · have hkl : k.toNat < l.length := by omega
          obtain ⟨b, off, B, d, rfl, hbl, hc1, hc2, hc3, hpa⟩ := (hA.below hb) k.toNat (l[k.toNat]'hkl) (List.getElem?_eq_getElem hkl)
          have HX : Hid (l.getD k.toNat instItem.default = l[k.toNat]'hkl) := hide (by simp [hkl])
          have hx := itemsOk_at HI.out (List.getElem?_eq_getElem hkl)
          generalize (l[k.toNat]'hkl) = x at *
          have hx3 : x.parts.length ≤ 3 := hx.2.2.2.2.1
          have HM := hide hx.2.2.2.2.2.2
          clear hx
          have HU : Hid (usesL l index = usesGo l k.toNat (stepSet x k.toNat s)) := hide (by rw [HG.out, show (k + 1).toNat = k.toNat + 1 from by omega, usesGo, HX.out])
          cases hh : hasB s k.toNat with
          | false =>
            have HH := hide hh
            have HU2 : Hid (usesL l index = usesGo l (k - 1 + 1).toNat s) := hide (by rw [HU.out, stepSet, hh, show k - 1 + 1 = k from by omega]; rfl)
            clear hh
            go_wp2_with fail
            refine (inSet_any _ _ _ hs0 hs1 hge hk1).mono ?_
            rintro e w3 ⟨rfl, rfl⟩
            rw [HH.out]
            go_wp2_with fail
            go_roundw
            case rel => exact ⟨s, k - 1, by omega, by omega, by omega, hs0, hs1, rfl, rfl, HU2, hb⟩
            case measure => simp [intOf]; omega
          | true =>
            have HH := hide hh
            have HU2 : Hid (usesL l index = usesGo l (k - 1 + 1).toNat (partsSet s x.parts)) := hide (by rw [HU.out, stepSet, hh, show k - 1 + 1 = k from by omega]; rfl)
            clear hh
            go_wp2_with fail
            refine (inSet_any _ _ _ hs0 hs1 hge hk1).mono ?_
            rintro e w3 ⟨rfl, rfl⟩
            rw [HH.out]
            go_wp2_with fail
            obtain ⟨wo, rfl⟩ : ∃ wo : World, wo = w3 := ⟨_, rfl⟩
            go_loopw [5, 37] (fun sv i wr => ∃ (s2 : Int) (j : Nat), j ≤ x.parts.length ∧ 0 ≤ s2 ∧ s2 < 64 ∧ sv = .int .i64 s2 ∧ i = .int .i64 j ∧ Hid (partsSet s x.parts = partsSet s2 (x.parts.drop j)) ∧ Below wo.heap.size wo wr) (fun _ i _ => x.parts.length - (intOf i).toNat)
            case atStart => exact ⟨s, 0, by omega, hs0, hs1, rfl, rfl, hide rfl, Below.refl _ _⟩
            case round =>
              obtain ⟨s2, j, hj, ht0, ht1, rfl, rfl, HS, hb4⟩ := hrel
              have hb3 := next hb hb4
              have hsz4 := hb4.size
              have hsz3 := hb3.size
              by_cases hlt : j < x.parts.length
              · obtain ⟨b2, off2, rfl, hbl2, hd1, hd2⟩ := (hpa.below hb4) j x.parts[j] (List.getElem?_eq_getElem hlt)
                have hpm := HM.out _ (List.getElem_mem hlt)
                have HD : Hid (x.parts.drop j = x.parts[j] :: x.parts.drop (j + 1)) := hide (List.drop_eq_getElem_cons hlt)
                generalize x.parts[j] = p at *
                have hp0 : 0 ≤ p.of := hpm.1
                have hp1 : p.of < 6 := by omega
                have hpr := pow_range p.of.toNat (by omega)
                have HO : Hid (bits .or .i64 s2 (wrap64 (2 ^ p.of.toNat)) = orI s2 (2 ^ p.of.toNat)) := hide (by rw [wrap_pow _ (by omega)]; exact or_all' _ _ ht0 ht1 (by omega) hpr.2)
                have ho := orI_lt ht1 hpr.2
                have HS2 : Hid (partsSet s x.parts = partsSet (orI s2 (2 ^ p.of.toNat)) (x.parts.drop (j + 1))) := hide (by rw [HS.out, HD.out, partsSet])
                clear hpm hpr
                have hz : (0 : Int) ≤ j := by omega
                have hz2 : (j : Int) < x.parts.length := by omega
                go_wp2_with fail
                go_roundw
                case rel => exact ⟨_, j + 1, hlt, ho.1, ho.2, by rw [HO.out], by go_num, HS2, by go_grown⟩
                case measure => simp [intOf]; omega
              · have HE : Hid (partsSet s x.parts = s2) := hide (by rw [HS.out, List.drop_of_length_le (by omega)]; rfl)
                go_wp2_with fail
                go_roundw
                case rel => exact ⟨s2, k - 1, by omega, by omega, by omega, ht0, ht1, rfl, rfl, by rw [← HE.out]; exact HU2, hb3⟩
                case measure => simp [intOf]; omega
        · have HE : Hid (usesL l index = s) := hide (by rw [HG.out, show (k + 1).toNat = 0 from by omega]; rfl)
          go_wp2_with fail
          go_ret
          exact ⟨by rw [HE.out]; rfl, hb⟩

set_option maxHeartbeats 1000000 in
theorem specUsesOf_any (A : Option Addr) (c : Nat) (l : List Item) (index : Int) (w : World) (hA : ItemsAt w A l) (hl : l.length ≤ 1048576) (hp : ∀ x ∈ l, x.parts.length ≤ 1048576) :
    Calls Tryd.prog 114 #[.slice A l.length c, .int .i64 index] w fun e w' => e = .returned (.int .i64 (usesL l index)) ∧ Below w.heap.size w w' := by
  have HP := hide hp
  clear hp
  cases hI : itemsOk l with
  | false =>
    have HI := hide hI
    have HR : Hid (usesL l index = -1) := by unfold usesL; rw [hI]; exact hide rfl
    clear hI
    go_enter Tryd.func114, Tryd.ntmps114
    go_wp2_with fail
    refine (specItemsValid_any _ _ _ _ hA hl HP.out).mono ?_
    rintro e w1 ⟨rfl, hB⟩
    rw [HI.out]
    go_wp2_with fail
    go_ret
    exact ⟨by rw [HR.out]; rfl, hB⟩
  | true =>
    have HI := hide hI
    have hl6 := itemsOk_len hI
    cases hR : inR index 0 ((l.length : Int) - 1) with
    | false =>
      have HQ := hide hR
      have HR : Hid (usesL l index = -1) := by unfold usesL; rw [hI, hR]; exact hide rfl
      clear hI hR
      go_enter Tryd.func114, Tryd.ntmps114
      go_wp2_with fail
      refine (specItemsValid_any _ _ _ _ hA hl HP.out).mono ?_
      rintro e w1 ⟨rfl, hB⟩
      rw [HI.out]
      go_wp2_with fail
      refine (l1In_is _ _ _ _ HQ _).mono ?_
      rintro e w2 ⟨rfl, rfl⟩
      go_wp2_with fail
      go_ret
      exact ⟨by rw [HR.out]; rfl, hB⟩
    | true =>
      have HQ := hide hR
      have HR : Hid (usesL l index = usesGo l (index.toNat + 1) (2 ^ index.toNat)) := by unfold usesL; rw [hI, hR]; exact hide rfl
      have hi := inR_iff.1 hR
      have hi0 : 0 ≤ index := hi.1
      have hi1 : index < 6 := by omega
      have HW := hide (wrap_pow index.toNat (by omega))
      have HPW := hide (pow_range index.toNat (by omega))
      clear hI hR hi
      go_enter Tryd.func114, Tryd.ntmps114
      go_wp2_with fail
      refine (specItemsValid_any _ _ _ _ hA hl HP.out).mono ?_
      rintro e w1 ⟨rfl, hB⟩
      rw [HI.out]
      go_wp2_with fail
      refine (l1In_is _ _ _ _ HQ _).mono ?_
      rintro e w2 ⟨rfl, rfl⟩
      have hsz1 := hB.size
      go_wp2_with fail
      go_loopw [5, 6] (fun sv i wr => ∃ s k : Int, -1 ≤ k ∧ k < 6 ∧ k < l.length ∧ 0 ≤ s ∧ s < 64 ∧ sv = .int .i64 s ∧ i = .int .i64 k ∧ Hid (usesL l index = usesGo l (k + 1).toNat s) ∧ Below w.heap.size w wr) (fun _ i _ => (intOf i + 1).toNat)
      case atStart => exact ⟨2 ^ index.toNat, index, by omega, hi1, by have := inR_iff.1 HQ.out; omega, by have := HPW.out; omega, HPW.out.2, by rw [HW.out], rfl, by rw [HR.out, show (index + 1).toNat = index.toNat + 1 from by omega]; exact hide rfl, hB⟩
      case round =>
        obtain ⟨s, k, hk0, hk1, hk2, hs0, hs1, rfl, rfl, HG, hb⟩ := hrel
        have hsz := hb.size
        by_cases hge : 0 ≤ k
        · have hkl : k.toNat < l.length := by omega
          obtain ⟨b, off, B, d, rfl, hbl, hc1, hc2, hc3, hpa⟩ := (hA.below hb) k.toNat (l[k.toNat]'hkl) (List.getElem?_eq_getElem hkl)
          have HX : Hid (l.getD k.toNat instItem.default = l[k.toNat]'hkl) := hide (by simp [hkl])
          have hx := itemsOk_at HI.out (List.getElem?_eq_getElem hkl)
          generalize (l[k.toNat]'hkl) = x at *
          have hx3 : x.parts.length ≤ 3 := hx.2.2.2.2.1
          have HM := hide hx.2.2.2.2.2.2
          clear hx
          have HU : Hid (usesL l index = usesGo l k.toNat (stepSet x k.toNat s)) := hide (by rw [HG.out, show (k + 1).toNat = k.toNat + 1 from by omega, usesGo, HX.out])
          cases hh : hasB s k.toNat with
          | false =>
            have HU2 : Hid (usesL l index = usesGo l (k - 1 + 1).toNat s) := hide (by rw [HU.out, stepSet, hh, show k - 1 + 1 = k from by omega]; rfl)
            have hf : (s / 2 ^ k.toNat % 2 == 1) = false := hh
            have hd := (div_range s k.toNat hs0 hs1).1
            clear hh
            by_cases hz : (0 : Int) < x.parts.length
            all_goals
              go_wp2_with fail
              obtain ⟨wo, rfl⟩ : ∃ wo : World, wo = wr := ⟨_, rfl⟩
              go_loopw [5, 7] (fun sv i wr => sv = .int .i64 s ∧ i = .int .i64 0 ∧ wr = wo) (fun _ _ _ => 0)
              case atStart => exact ⟨rfl, rfl, rfl⟩
              case round =>
                obtain ⟨rfl, rfl, rfl⟩ := hrel
                go_wp2_with fail
                go_roundw
                case rel => exact ⟨s, k - 1, by omega, by omega, by omega, hs0, hs1, rfl, rfl, HU2, hb⟩
                case measure => simp [intOf]; omega
          | true =>
            have HH := hide hh
            have HU2 : Hid (usesL l index = usesGo l (k - 1 + 1).toNat (partsSet s x.parts)) := hide (by rw [HU.out, stepSet, hh, show k - 1 + 1 = k from by omega]; rfl)
            clear hh
            go_wp2_with fail
            obtain ⟨wo, rfl⟩ : ∃ wo : World, wo = wr := ⟨_, rfl⟩
            go_loopw [5, 7] (fun sv i wr => ∃ (s2 : Int) (j : Nat), j ≤ x.parts.length ∧ 0 ≤ s2 ∧ s2 < 64 ∧ sv = .int .i64 s2 ∧ i = .int .i64 j ∧ Hid (hasB s2 k.toNat = true) ∧ Hid (partsSet s x.parts = partsSet s2 (x.parts.drop j)) ∧ wr = wo) (fun _ i _ => x.parts.length - (intOf i).toNat)
            case atStart => exact ⟨s, 0, by omega, hs0, hs1, rfl, rfl, HH, hide rfl, rfl⟩
            case round =>
              obtain ⟨s2, j, hj, ht0, ht1, rfl, rfl, HH2, HS, rfl⟩ := hrel
              have hf : (s2 / 2 ^ k.toNat % 2 == 1) = true := HH2.out
              have hd := (div_range s2 k.toNat ht0 ht1).1
              by_cases hlt : j < x.parts.length
              · obtain ⟨b2, off2, rfl, hbl2, hd1, hd2⟩ := hpa j x.parts[j] (List.getElem?_eq_getElem hlt)
                have hpm := HM.out _ (List.getElem_mem hlt)
                have HD : Hid (x.parts.drop j = x.parts[j] :: x.parts.drop (j + 1)) := hide (List.drop_eq_getElem_cons hlt)
                generalize x.parts[j] = p at *
                have hp0 : 0 ≤ p.of := hpm.1
                have hp1 : p.of < 6 := by omega
                have HPR := hide (pow_range p.of.toNat (by omega))
                have HO := hide (wrap_pow p.of.toNat (by omega))
                have ho := orI_lt ht1 HPR.out.2
                have HH3 : Hid (hasB (orI s2 (2 ^ p.of.toNat)) k.toNat = true) := hide (hasB_or ht0 HH2.out)
                have HS2 : Hid (partsSet s x.parts = partsSet (orI s2 (2 ^ p.of.toNat)) (x.parts.drop (j + 1))) := hide (by rw [HS.out, HD.out, partsSet])
                clear hpm
                have hz : (0 : Int) ≤ j := by omega
                have hz2 : (j : Int) < x.parts.length := by omega
                go_wp2_with fail
                rw [HO.out]
                refine (l1Join_any _ _ _ ht0 ht1 (by have := HPR.out; omega) HPR.out.2).mono ?_
                rintro e w3 ⟨rfl, rfl⟩
                go_wp2_with fail
                go_roundw
                case rel => exact ⟨_, j + 1, hlt, ho.1, ho.2, rfl, by go_num, HH3, HS2, trivial⟩
                case measure => simp [intOf]; omega
              · have HE : Hid (partsSet s x.parts = s2) := hide (by rw [HS.out, List.drop_of_length_le (by omega)]; rfl)
                go_wp2_with fail
                go_roundw
                case rel => exact ⟨s2, k - 1, by omega, by omega, by omega, ht0, ht1, rfl, rfl, by rw [← HE.out]; exact HU2, hb⟩
                case measure => simp [intOf]; omega
        · have HE : Hid (usesL l index = s) := hide (by rw [HG.out, show (k + 1).toNat = 0 from by omega]; rfl)
          go_wp2_with fail
          go_ret
          exact ⟨by rw [HE.out]; rfl, hb⟩
end Go.Proofs.YtmepnilnlpoodaaDoor
