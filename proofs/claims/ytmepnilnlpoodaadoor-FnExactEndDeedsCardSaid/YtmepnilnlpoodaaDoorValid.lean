/- Contracts of ItemsValid and its helpers, of the program and of the reference model: both compute one function of the list.
   Conditions: the list and each item's parts have at most 1048576 elements. -/
import Derived.Test.YtmepnilnlpoodaaDoorTo
namespace Go.Proofs.YtmepnilnlpoodaaDoor
open Go.RowKit

def inR (n lo hi : Int) : Bool := decide (lo ≤ n ∧ n ≤ hi)

theorem inRange_is (n lo hi : Int) (b : Bool) (hb : Hid (inR n lo hi = b)) (w : World) :
    Calls Tryd.prog 73 #[.int .i64 n, .int .i64 lo, .int .i64 hi] w fun e w' => e = .returned (.bool b) ∧ w = w' := by
  obtain rfl : inR n lo hi = b := hb
  unfold inR
  by_cases h : lo ≤ n
  · go_enter Tryd.func73, Tryd.ntmps73
    go_wp2
    go_ret
    simp [h]
  · go_enter Tryd.func73, Tryd.ntmps73
    go_wp2
    go_ret
    simp; omega

def partsGo (index : Int) : Int → List Part → Bool
  | _, [] => true
  | least, p :: r => inR p.of least (index - 1) && (inR p.many 1 6 && partsGo index (p.of + 1) r)

def partsFitL (ps : List Part) (index : Int) : Bool := inR ps.length 1 3 && partsGo index 0 ps

set_option maxHeartbeats 400000 in
theorem partsFit_any (A : Option Addr) (c : Nat) (ps : List Part) (index : Int) (w : World) (hps : PartsAt w A ps) (hi0 : 0 ≤ index) (hi1 : index ≤ 1048576) (hl : ps.length ≤ 1048576) :
    Calls Tryd.prog 141 #[.slice A ps.length c, .int .i64 index] w fun e w' => e = .returned (.bool (partsFitL ps index)) ∧ Below w.heap.size w w' := by
  cases hlen : inR ps.length 1 3 with
  | false =>
    have HL := hide hlen
    have HF : Hid (partsFitL ps index = false) := by unfold partsFitL; rw [hlen]; rfl
    clear hlen
    go_enter Tryd.func141, Tryd.ntmps141
    go_wp2_with fail
    refine (inRange_is _ _ _ _ HL _).mono ?_
    rintro e w' ⟨rfl, rfl⟩
    go_wp2_with fail
    go_ret
    exact ⟨by rw [HF.out]; rfl, Below.refl _ _⟩
  | true =>
    have HL := hide hlen
    have HF : Hid (partsFitL ps index = partsGo index 0 ps) := by unfold partsFitL; rw [hlen]; rfl
    clear hlen
    go_enter Tryd.func141, Tryd.ntmps141
    go_wp2_with fail
    refine (inRange_is _ _ _ _ HL _).mono ?_
    rintro e w' ⟨rfl, rfl⟩
    go_wp2_with fail
    go_loopw [5, 14] (fun le i wr => ∃ (k : Nat) (least : Int), k ≤ ps.length ∧ i = .int .i64 k ∧ le = .int .i64 least ∧ 0 ≤ least ∧ Hid (partsGo index 0 ps = partsGo index least (ps.drop k)) ∧ Below w.heap.size w wr) (fun _ i _ => ps.length - (intOf i).toNat)
    case atStart => exact ⟨0, 0, Nat.zero_le _, rfl, rfl, by omega, hide rfl, Below.refl _ _⟩
    case round =>
      obtain ⟨k, least, hk, rfl, rfl, hle, HG, hb⟩ := hrel
      have hsz := hb.size
      by_cases hlt : k < ps.length
      · obtain ⟨b, off, rfl, hbl, hc1, hc2⟩ := (hps.below hb) k ps[k] (List.getElem?_eq_getElem hlt)
        have HD : Hid (ps.drop k = ps[k] :: ps.drop (k + 1)) := hide (List.drop_eq_getElem_cons hlt)
        generalize ps[k] = p at *
        cases h1 : inR p.of least (index - 1) with
        | false =>
          have H1 := hide h1
          have HR : Hid (partsFitL ps index = false) := hide (by rw [HF.out, HG.out, HD.out]; unfold partsGo; rw [h1]; rfl)
          clear h1
          go_wp2_with fail
          refine (inRange_is _ _ _ _ H1 _).mono ?_
          rintro e w' ⟨rfl, rfl⟩
          go_wp2_with fail
          go_ret
          exact ⟨by rw [HR.out]; rfl, by go_grown⟩
        | true =>
          have H1 := hide h1
          have hp1 : p.of ≤ index - 1 := by unfold inR at h1; simp at h1; omega
          have hp0 : least ≤ p.of := by unfold inR at h1; simp at h1; omega
          cases h2 : inR p.many 1 6 with
          | false =>
            have H2 := hide h2
            have HR : Hid (partsFitL ps index = false) := hide (by rw [HF.out, HG.out, HD.out]; unfold partsGo; rw [h1, h2]; rfl)
            clear h1 h2
            go_wp2_with fail
            refine (inRange_is _ _ _ _ H1 _).mono ?_
            rintro e w' ⟨rfl, rfl⟩
            go_wp2_with fail
            refine (inRange_is _ _ _ _ H2 _).mono ?_
            rintro e w' ⟨rfl, rfl⟩
            go_wp2_with fail
            go_ret
            exact ⟨by rw [HR.out]; rfl, by go_grown⟩
          | true =>
            have H2 := hide h2
            have HR : Hid (partsGo index 0 ps = partsGo index (p.of + 1) (ps.drop (k + 1))) := hide (by rw [HG.out, HD.out, partsGo, h1, h2]; rfl)
            clear h1 h2
            go_wp2_with fail
            refine (inRange_is _ _ _ _ H1 _).mono ?_
            rintro e w' ⟨rfl, rfl⟩
            go_wp2_with fail
            refine (inRange_is _ _ _ _ H2 _).mono ?_
            rintro e w' ⟨rfl, rfl⟩
            go_wp2_with fail
            go_roundw
            case rel => exact ⟨k + 1, _, hlt, by go_num, rfl, by omega, HR, by go_grown⟩
            case measure => simp [intOf]; omega
      · have HR : Hid (partsFitL ps index = true) := hide (by rw [HF.out, HG.out, List.drop_of_length_le (by omega)]; rfl)
        go_wp2_with fail
        go_ret
        exact ⟨by rw [HR.out]; rfl, by go_grown⟩
theorem below_drewN {B : Nat} {a w : World} (h : Below B a w) (n : Nat) : Below B a (w.drewN n) := ⟨h.os, h.tape, h.output, h.size, h.block⟩

theorem inR_iff {n lo hi : Int} : inR n lo hi = true ↔ lo ≤ n ∧ n ≤ hi := by unfold inR; simp

theorem l1In_is (n lo hi : Int) (b : Bool) (hb : Hid (inR n lo hi = b)) (w : World) :
    Calls Tryd.prog 48 #[.int .i64 n, .int .i64 lo, .int .i64 hi] w fun e w' => e = .returned (.bool b) ∧ w' = w := by
  obtain rfl : inR n lo hi = b := hb
  unfold inR
  by_cases h : n ≥ lo
  · go_enter Tryd.func48, Tryd.ntmps48
    go_wp2
    go_ret
    simp [h]
  · go_enter Tryd.func48, Tryd.ntmps48
    go_wp2
    go_ret
    simp; omega

def itemOk (x : Item) (index : Int) : Bool :=
  inR x.marks 0 31 && (if x.yield = 0 then x.parts.length == 0 else inR x.yield 1 6 && partsFitL x.parts index)

def itemsGo : Int → List Item → Bool
  | _, [] => true
  | k, x :: r => itemOk x k && itemsGo (k + 1) r

def itemsOk (l : List Item) : Bool := decide (l.length ≤ 6) && itemsGo 0 l

def l1Go (index : Int) : Int → List Part → Bool
  | _, [] => true
  | prev, p :: r => inR p.of 0 (index - 1) && (inR p.many 1 6 && (decide (prev < p.of) && l1Go index p.of r))

theorem l1Go_eq (index : Int) (ps : List Part) : ∀ prev, -1 ≤ prev → l1Go index prev ps = partsGo index (prev + 1) ps := by
  induction ps with
  | nil => intro prev _; rfl
  | cons p r ih =>
    intro prev h
    have e1 : (inR p.of 0 (index - 1) && decide (prev < p.of)) = inR p.of (prev + 1) (index - 1) := by
      rw [Bool.eq_iff_iff]; simp only [Bool.and_eq_true, inR_iff, decide_eq_true_eq]; omega
    unfold l1Go partsGo
    rw [← e1]
    cases h1 : inR p.of 0 (index - 1)
    · rfl
    · rw [ih _ (by rw [inR_iff] at h1; omega)]
      cases inR p.many 1 6 <;> cases decide (prev < p.of) <;> rfl

def l1L (x : Item) (index : Int) : Bool :=
  l1Go index (-1) x.parts && (inR x.yield 0 6 && (decide (x.parts.length ≤ 3) && ((decide (x.yield > 0) == decide ((x.parts.length : Int) > 0)) && inR x.marks 0 31)))

theorem l1L_eq (x : Item) (index : Int) : l1L x index = itemOk x index := by
  unfold l1L itemOk
  rw [l1Go_eq _ _ _ (by omega)]
  show (partsGo index 0 x.parts && _) = _
  by_cases hy : x.yield = 0
  · rw [if_pos hy, hy]
    cases hps : x.parts with
    | nil => simp [partsGo, inR]
    | cons p r => simp [inR]
  · rw [if_neg hy]
    unfold partsFitL
    rw [Bool.eq_iff_iff]
    simp only [Bool.and_eq_true, inR_iff, decide_eq_true_eq, beq_iff_eq, decide_eq_decide]
    constructor
    · rintro ⟨a, b, c, d, e⟩; exact ⟨e, by omega, ⟨by omega, by omega⟩, a⟩
    · rintro ⟨e, b, ⟨c, d⟩, a⟩; exact ⟨a, by omega, by omega, by omega, e⟩

set_option maxHeartbeats 400000 in
theorem itemFits_any (A : Option Addr) (c : Nat) (x : Item) (index : Int) (w : World) (hps : PartsAt w A x.parts) (hi0 : 0 ≤ index) (hi1 : index ≤ 1048576) (hl : x.parts.length ≤ 1048576) :
    Calls Tryd.prog 117 #[.agg #[.int .i64 x.yield, .slice A x.parts.length c, .int .i64 x.marks], .int .i64 index] w fun e w' => e = .returned (.bool (itemOk x index)) ∧ Below w.heap.size w w' := by
  cases h1 : inR x.marks 0 31 with
  | false =>
    have H1 := hide h1
    have HR : Hid (itemOk x index = false) := by unfold itemOk; rw [h1]; exact hide rfl
    clear h1
    go_enter Tryd.func117, Tryd.ntmps117
    go_wp2_with fail
    refine (inRange_is _ _ _ _ H1 _).mono ?_
    rintro e w' ⟨rfl, rfl⟩
    go_wp2_with fail
    go_ret
    exact ⟨by rw [HR.out]; rfl, by go_grown⟩
  | true =>
    have H1 := hide h1
    by_cases hy : x.yield = 0
    · have HR : Hid (itemOk x index = (x.parts.length == 0)) := by unfold itemOk; rw [h1, if_pos hy]; exact hide rfl
      have hb1 : (x.yield == 0) = true := by simp [hy]
      have HR2 : Hid (((x.parts.length : Int) == 0) = (x.parts.length == 0)) := by apply hide; rw [Bool.eq_iff_iff]; simp
      clear h1 hy
      go_enter Tryd.func117, Tryd.ntmps117
      go_wp2_with fail
      refine (inRange_is _ _ _ _ H1 _).mono ?_
      rintro e w' ⟨rfl, rfl⟩
      go_wp2_with fail
      go_ret
      exact ⟨by rw [HR.out, ← HR2.out]; rfl, by go_grown⟩
    · have hb1 : (x.yield == 0) = false := by simp [hy]
      have hy' := hide hy
      cases h2 : inR x.yield 1 6 with
      | false =>
        have H2 := hide h2
        have HR : Hid (itemOk x index = false) := by unfold itemOk; rw [h1, if_neg hy, h2]; exact hide rfl
        clear h1 h2 hy
        go_enter Tryd.func117, Tryd.ntmps117
        go_wp2_with fail
        refine (inRange_is _ _ _ _ H1 _).mono ?_
        rintro e w' ⟨rfl, rfl⟩
        go_wp2_with fail
        refine (inRange_is _ _ _ _ H2 _).mono ?_
        rintro e w' ⟨rfl, rfl⟩
        go_wp2_with fail
        go_ret
        exact ⟨by rw [HR.out]; rfl, by go_grown⟩
      | true =>
        have H2 := hide h2
        have HR : Hid (itemOk x index = partsFitL x.parts index) := by unfold itemOk; rw [h1, if_neg hy, h2]; exact hide rfl
        clear h1 h2 hy
        go_enter Tryd.func117, Tryd.ntmps117
        go_wp2_with fail
        refine (inRange_is _ _ _ _ H1 _).mono ?_
        rintro e w' ⟨rfl, rfl⟩
        go_wp2_with fail
        refine (inRange_is _ _ _ _ H2 _).mono ?_
        rintro e w' ⟨rfl, rfl⟩
        go_wp2_with fail
        refine (partsFit_any _ _ _ _ _ (hps.below (by go_grown)) hi0 hi1 hl).mono ?_
        rintro e w' ⟨rfl, hB⟩
        have hb2 : Below w.heap.size w w' := Below.trans (by go_grown) (hB.mono (by simp))
        go_wp2_with fail
        go_ret
        exact ⟨by rw [HR.out]; rfl, by go_grown⟩

set_option maxHeartbeats 400000 in
theorem implItemsValid_any (A : Option Addr) (c : Nat) (l : List Item) (w : World) (hA : ItemsAt w A l) (hl : l.length ≤ 1048576) (hp : ∀ x ∈ l, x.parts.length ≤ 1048576) :
    Calls Tryd.prog 97 #[.slice A l.length c] w fun e w' => e = .returned (.bool (itemsOk l)) ∧ Below w.heap.size w w' := by
  have HP := hide hp
  clear hp
  by_cases h6 : l.length ≤ 6
  · have HR : Hid (itemsOk l = itemsGo 0 l) := by unfold itemsOk; rw [decide_eq_true h6]; exact hide rfl
    go_enter Tryd.func97, Tryd.ntmps97
    go_wp2_with fail
    go_loopw [10] (fun i wr => ∃ k : Nat, k ≤ l.length ∧ i = .int .i64 k ∧ Hid (itemsOk l = itemsGo k (l.drop k)) ∧ Below w.heap.size w wr) (fun i _ => l.length - (intOf i).toNat)
    case atStart => exact ⟨0, Nat.zero_le _, rfl, HR, by go_grown⟩
    case round =>
      obtain ⟨k, hk, rfl, HG, hb⟩ := hrel
      have hsz := hb.size
      by_cases hlt : k < l.length
      · obtain ⟨b, off, B, d, rfl, hbl, hc1, hc2, hc3, hpa⟩ := (hA.below hb) k l[k] (List.getElem?_eq_getElem hlt)
        have HD : Hid (l.drop k = l[k] :: l.drop (k + 1)) := hide (List.drop_eq_getElem_cons hlt)
        have hx : l[k].parts.length ≤ 1048576 := HP.out _ (List.getElem_mem hlt)
        generalize l[k] = x at *
        have hz : (0 : Int) ≤ k := by omega
        have hz2 : (k : Int) < l.length := by omega
        cases h1 : itemOk x k with
        | false =>
          have H1 := hide h1
          have H3 : Hid (itemsOk l = false) := hide (by rw [HG.out, HD.out, itemsGo, h1]; rfl)
          clear h1
          go_wp2_with fail
          refine (itemFits_any _ _ _ _ _ (hpa.below (by go_grown)) hz (by omega) hx).mono ?_
          rintro e w' ⟨rfl, hB⟩
          rw [H1.out]
          have hb2 : Below w.heap.size w w' := Below.trans (by go_grown) (hB.mono (by simp; omega))
          go_wp2_with fail
          go_ret
          exact ⟨by rw [H3.out]; rfl, by go_grown⟩
        | true =>
          have H1 := hide h1
          have H3 : Hid (itemsOk l = itemsGo ((k + 1 : Nat) : Int) (l.drop (k + 1))) := hide (by rw [HG.out, HD.out, itemsGo, h1]; rfl)
          clear h1
          go_wp2_with fail
          refine (itemFits_any _ _ _ _ _ (hpa.below (by go_grown)) hz (by omega) hx).mono ?_
          rintro e w' ⟨rfl, hB⟩
          rw [H1.out]
          have hb2 : Below w.heap.size w w' := Below.trans (by go_grown) (hB.mono (by simp; omega))
          go_wp2_with fail
          go_roundw
          case rel => exact ⟨k + 1, hlt, by go_num, H3, by go_grown⟩
          case measure => simp [intOf]; omega
      · have H3 : Hid (itemsOk l = true) := hide (by rw [HG.out, List.drop_of_length_le (by omega)]; rfl)
        go_wp2_with fail
        go_ret
        exact ⟨by rw [H3.out]; rfl, by go_grown⟩
  · have HR : Hid (itemsOk l = false) := by unfold itemsOk; rw [decide_eq_false h6]; exact hide rfl
    go_enter Tryd.func97, Tryd.ntmps97
    go_wp2_with fail
    go_ret
    exact ⟨by rw [HR.out]; rfl, by go_grown⟩

set_option maxHeartbeats 1000000 in
theorem l1Item_any (A : Option Addr) (c : Nat) (x : Item) (index : Int) (w : World) (hps : PartsAt w A x.parts) (hi0 : 0 ≤ index) (hi1 : index ≤ 1048576) (hl : x.parts.length ≤ 1048576) :
    Calls Tryd.prog 112 #[.agg #[.int .i64 x.yield, .slice A x.parts.length c, .int .i64 x.marks], .int .i64 index] w fun e w' => e = .returned (.bool (l1L x index)) ∧ Below w.heap.size w w' := by
  go_enter Tryd.func112, Tryd.ntmps112
  go_wp2_with fail
  go_loopw [5] (fun i wr => ∃ (k : Nat) (prev : Int), k ≤ x.parts.length ∧ i = .int .i64 k ∧ Hid (l1Go index (-1) x.parts = l1Go index prev (x.parts.drop k)) ∧ Hid (k = 0 → prev = -1) ∧ Hid (∀ j p, k = j + 1 → x.parts[j]? = some p → prev = p.of) ∧
    wr.cell? ⟨w.heap.size, 0, none⟩ = some (.int .i64 x.yield) ∧ wr.cell? ⟨w.heap.size, 1, none⟩ = some (.slice A x.parts.length c) ∧ wr.cell? ⟨w.heap.size, 2, none⟩ = some (.int .i64 x.marks) ∧ Below w.heap.size w wr) (fun i _ => x.parts.length - (intOf i).toNat)
  case atStart => exact ⟨0, -1, Nat.zero_le _, rfl, hide rfl, hide (fun _ => rfl), hide (fun _ _ h => absurd h (by omega)), by simp, by simp, by simp, by go_grown⟩
  case round =>
    obtain ⟨k, prev, hk, rfl, HG, HZ, HS, hq0, hq1, hq2, hb⟩ := hrel
    have hsz := hb.size
    by_cases hlt : k < x.parts.length
    · obtain ⟨b, off, rfl, hbl, hc1, hc2⟩ := (hps.below hb) k x.parts[k] (List.getElem?_eq_getElem hlt)
      have HD : Hid (x.parts.drop k = x.parts[k] :: x.parts.drop (k + 1)) := hide (List.drop_eq_getElem_cons hlt)
      have HP : Hid (x.parts[k]? = some x.parts[k]) := hide (List.getElem?_eq_getElem hlt)
      generalize x.parts[k] = p at *
      have hz : (0 : Int) ≤ k := by omega
      have hz2 : (k : Int) < x.parts.length := by omega
      cases h1 : inR p.of 0 (index - 1) with
      | false =>
        have H1 := hide h1
        have H3 : Hid (l1L x index = false) := hide (by unfold l1L; rw [HG.out, HD.out, l1Go, h1]; rfl)
        clear h1
        go_wp2_with fail
        go_quiet ((go_at_call 48; exact Calls.quiet_of_same (l1In_is _ _ _ _ H1 _)))
        go_wp2_with fail
        go_ret
        exact ⟨by rw [H3.out]; rfl, below_drewN hb _⟩
      | true =>
        have H1 := hide h1
        have hp0 := (inR_iff.1 h1).1
        cases h2 : inR p.many 1 6 with
        | false =>
          have H2 := hide h2
          have H3 : Hid (l1L x index = false) := hide (by unfold l1L; rw [HG.out, HD.out, l1Go, h1, h2]; rfl)
          clear h1 h2
          go_wp2_with fail
          go_quiet ((go_at_call 48; exact Calls.quiet_of_same (l1In_is _ _ _ _ (by first | exact H1 | exact H2) _)))
          go_wp2_with fail
          go_ret
          exact ⟨by rw [H3.out]; rfl, below_drewN hb _⟩
        | true =>
          have H2 := hide h2
          have HS' : Hid (∀ j q, k + 1 = j + 1 → x.parts[j]? = some q → p.of = q.of) := by
            apply hide
            intro j q hj hq
            obtain rfl : k = j := by omega
            rw [HP.out] at hq
            injection hq with hq
            rw [hq]
          by_cases h0 : 0 < k
          · obtain ⟨j, rfl⟩ : ∃ j, k = j + 1 := ⟨k - 1, by omega⟩
            have hj : j < x.parts.length := by omega
            obtain ⟨b', off', hA', -, hd1, -⟩ := (hps.below hb) j (x.parts[j]'hj) (List.getElem?_eq_getElem hj)
            injection hA' with hA'
            injection hA' with hA1 hA2
            subst hA1 hA2
            have HQ : Hid (prev = (x.parts[j]'hj).of) := hide (HS.out j _ rfl (List.getElem?_eq_getElem hj))
            generalize (x.parts[j]'hj).of = prev' at *
            obtain rfl : prev = prev' := HQ.out
            clear HQ
            by_cases hlt2 : prev < p.of
            · have H3 : Hid (l1Go index (-1) x.parts = l1Go index p.of (x.parts.drop (j + 1 + 1))) := hide (by rw [HG.out, HD.out, l1Go, h1, h2, decide_eq_true hlt2]; rfl)
              clear h1 h2
              go_wp2_with fail
              go_quiet ((go_at_call 48; exact Calls.quiet_of_same (l1In_is _ _ _ _ (by first | exact H1 | exact H2) _)))
              go_wp2_with fail
              go_roundw
              case rel => exact ⟨j + 1 + 1, _, hlt, by go_num, H3, hide (fun h => absurd h (by omega)), HS', hq0, hq1, hq2, below_drewN hb _⟩
              case measure => simp [intOf]; omega
            · have H3 : Hid (l1L x index = false) := hide (by unfold l1L; rw [HG.out, HD.out, l1Go, h1, h2, decide_eq_false hlt2]; rfl)
              clear h1 h2
              go_wp2_with fail
              go_quiet ((go_at_call 48; exact Calls.quiet_of_same (l1In_is _ _ _ _ (by first | exact H1 | exact H2) _)))
              go_wp2_with fail
              go_ret
              exact ⟨by rw [H3.out]; rfl, below_drewN hb _⟩
          · have H3 : Hid (l1Go index (-1) x.parts = l1Go index p.of (x.parts.drop (k + 1))) := hide (by rw [HG.out, HD.out, l1Go, h1, h2, HZ.out (by omega), decide_eq_true (by omega)]; rfl)
            have h0' : ¬ (0 : Int) < k := by omega
            clear h1 h2
            go_wp2_with fail
            go_quiet ((go_at_call 48; exact Calls.quiet_of_same (l1In_is _ _ _ _ (by first | exact H1 | exact H2) _)))
            go_wp2_with fail
            go_roundw
            case rel => exact ⟨k + 1, _, hlt, by go_num, H3, hide (fun h => absurd h (by omega)), HS', hq0, hq1, hq2, below_drewN hb _⟩
            case measure => simp [intOf]; omega
    · have HR : Hid (l1L x index = (inR x.yield 0 6 && (decide (x.parts.length ≤ 3) && ((decide (x.yield > 0) == decide ((x.parts.length : Int) > 0)) && inR x.marks 0 31)))) := by
        unfold l1L
        rw [HG.out, List.drop_of_length_le (by omega)]
        exact hide rfl
      cases h1 : inR x.yield 0 6 with
      | false =>
        have H1 := hide h1
        have H3 : Hid (l1L x index = false) := by rw [HR.out, h1]; exact hide rfl
        clear h1
        go_wp2_with fail
        refine (l1In_is _ _ _ _ H1 _).mono ?_
        rintro e w' ⟨rfl, rfl⟩
        go_wp2_with fail
        go_ret
        exact ⟨by rw [H3.out]; rfl, by go_grown⟩
      | true =>
        have H1 := hide h1
        by_cases h2 : x.parts.length ≤ 3
        · by_cases hy : 0 < x.yield
          · have HY : Hid (decide (x.yield > 0) = true) := hide (decide_eq_true hy)
            by_cases hn : (0 : Int) < x.parts.length
            · have HN : Hid (decide ((x.parts.length : Int) > 0) = true) := hide (decide_eq_true hn)
              have H3 : Hid (l1L x index = inR x.marks 0 31) := by rw [HR.out, h1, decide_eq_true h2, HY.out, HN.out]; exact hide rfl
              clear h1
              go_wp2_with fail
              refine (l1In_is _ _ _ _ H1 _).mono ?_
              rintro e w' ⟨rfl, rfl⟩
              go_wp2_with fail
              refine (l1In_is _ _ _ _ (hide rfl) _).mono ?_
              rintro e w' ⟨rfl, rfl⟩
              go_wp2_with fail
              go_ret
              exact ⟨by rw [H3.out]; rfl, by go_grown⟩
            · have HN : Hid (decide ((x.parts.length : Int) > 0) = false) := hide (decide_eq_false hn)
              have H3 : Hid (l1L x index = false) := by rw [HR.out, h1, decide_eq_true h2, HY.out, HN.out]; exact hide rfl
              clear h1
              go_wp2_with fail
              refine (l1In_is _ _ _ _ H1 _).mono ?_
              rintro e w' ⟨rfl, rfl⟩
              go_wp2_with fail
              go_ret
              exact ⟨by rw [H3.out]; rfl, by go_grown⟩
          · have HY : Hid (decide (x.yield > 0) = false) := hide (decide_eq_false hy)
            by_cases hn : (0 : Int) < x.parts.length
            · have HN : Hid (decide ((x.parts.length : Int) > 0) = true) := hide (decide_eq_true hn)
              have H3 : Hid (l1L x index = false) := by rw [HR.out, h1, decide_eq_true h2, HY.out, HN.out]; exact hide rfl
              clear h1
              go_wp2_with fail
              refine (l1In_is _ _ _ _ H1 _).mono ?_
              rintro e w' ⟨rfl, rfl⟩
              go_wp2_with fail
              go_ret
              exact ⟨by rw [H3.out]; rfl, by go_grown⟩
            · have HN : Hid (decide ((x.parts.length : Int) > 0) = false) := hide (decide_eq_false hn)
              have H3 : Hid (l1L x index = inR x.marks 0 31) := by rw [HR.out, h1, decide_eq_true h2, HY.out, HN.out]; exact hide rfl
              clear h1
              go_wp2_with fail
              refine (l1In_is _ _ _ _ H1 _).mono ?_
              rintro e w' ⟨rfl, rfl⟩
              go_wp2_with fail
              refine (l1In_is _ _ _ _ (hide rfl) _).mono ?_
              rintro e w' ⟨rfl, rfl⟩
              go_wp2_with fail
              go_ret
              exact ⟨by rw [H3.out]; rfl, by go_grown⟩
        · have H3 : Hid (l1L x index = false) := by rw [HR.out, h1, decide_eq_false h2]; exact hide rfl
          clear h1
          go_wp2_with fail
          refine (l1In_is _ _ _ _ H1 _).mono ?_
          rintro e w' ⟨rfl, rfl⟩
          go_wp2_with fail
          go_ret
          exact ⟨by rw [H3.out]; rfl, by go_grown⟩

set_option maxHeartbeats 400000 in
theorem specItemsValid_any (A : Option Addr) (c : Nat) (l : List Item) (w : World) (hA : ItemsAt w A l) (hl : l.length ≤ 1048576) (hp : ∀ x ∈ l, x.parts.length ≤ 1048576) :
    Calls Tryd.prog 91 #[.slice A l.length c] w fun e w' => e = .returned (.bool (itemsOk l)) ∧ Below w.heap.size w w' := by
  have HP := hide hp
  clear hp
  go_enter Tryd.func91, Tryd.ntmps91
  go_wp2_with fail
  go_loopw [3] (fun i wr => ∃ k : Nat, k ≤ l.length ∧ i = .int .i64 k ∧ Hid (itemsGo 0 l = itemsGo k (l.drop k)) ∧ Below w.heap.size w wr) (fun i _ => l.length - (intOf i).toNat)
  case atStart => exact ⟨0, Nat.zero_le _, rfl, hide rfl, by go_grown⟩
  case round =>
    obtain ⟨k, hk, rfl, HG, hb⟩ := hrel
    have hsz := hb.size
    by_cases hlt : k < l.length
    · obtain ⟨b, off, B, d, rfl, hbl, hc1, hc2, hc3, hpa⟩ := (hA.below hb) k l[k] (List.getElem?_eq_getElem hlt)
      have HD : Hid (l.drop k = l[k] :: l.drop (k + 1)) := hide (List.drop_eq_getElem_cons hlt)
      have hx : l[k].parts.length ≤ 1048576 := HP.out _ (List.getElem_mem hlt)
      generalize l[k] = x at *
      have hz : (0 : Int) ≤ k := by omega
      have hz2 : (k : Int) < l.length := by omega
      cases h1 : itemOk x k with
      | false =>
        have H1 : Hid (l1L x k = false) := hide (by rw [l1L_eq]; exact h1)
        have H3 : Hid (itemsOk l = false) := hide (by unfold itemsOk; rw [HG.out, HD.out, itemsGo, h1]; simp)
        clear h1
        go_wp2_with fail
        refine (l1Item_any _ _ _ _ _ hpa hz (by omega) hx).mono ?_
        rintro e w' ⟨rfl, hB⟩
        rw [H1.out]
        have hb2 : Below w.heap.size w w' := next hb hB
        go_wp2_with fail
        go_ret
        exact ⟨by rw [H3.out]; rfl, by go_grown⟩
      | true =>
        have H1 : Hid (l1L x k = true) := hide (by rw [l1L_eq]; exact h1)
        have H3 : Hid (itemsGo 0 l = itemsGo ((k + 1 : Nat) : Int) (l.drop (k + 1))) := hide (by rw [HG.out, HD.out, itemsGo, h1]; rfl)
        clear h1
        go_wp2_with fail
        refine (l1Item_any _ _ _ _ _ hpa hz (by omega) hx).mono ?_
        rintro e w' ⟨rfl, hB⟩
        rw [H1.out]
        have hb2 : Below w.heap.size w w' := next hb hB
        go_wp2_with fail
        go_roundw
        case rel => exact ⟨k + 1, hlt, by go_num, H3, by go_grown⟩
        case measure => simp [intOf]; omega
    · have H3 : Hid (itemsOk l = decide ((l.length : Int) ≤ 6)) := by
        apply hide
        unfold itemsOk
        rw [HG.out, List.drop_of_length_le (by omega), Bool.eq_iff_iff]
        simp [itemsGo]
        omega
      go_wp2_with fail
      go_ret
      exact ⟨by rw [H3.out]; rfl, by go_grown⟩
end Go.Proofs.YtmepnilnlpoodaaDoor
