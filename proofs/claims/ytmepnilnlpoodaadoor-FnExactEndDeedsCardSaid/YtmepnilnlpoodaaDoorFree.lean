/- Contracts of FreeOf, of the program and of the reference model: both make one list of the items and the set of allergens.
   Conditions: the list and each item's parts have at most 1048576 elements. -/
import Derived.Test.YtmepnilnlpoodaaDoorMarks
import Derived.Test.YtmepnilnlpoodaaDoorCost
import Derived.Maps.AppendAt
namespace Go.Proofs.YtmepnilnlpoodaaDoor
open Go.RowKit

/-- The slice value v owns, from block lo on, the numbers. -/
def IntSl (w : World) (lo : Nat) (v : Value) (xs : List Int) : Prop := w.ownsRow lo 3 1 v xs.length (xs.map (Value.int .i64))

theorem IntSl.form {w : World} {lo : Nat} {v : Value} {xs : List Int} (h : IntSl w lo v xs) : ∃ A c, v = .slice A xs.length c ∧ IntsAt w A xs ∧ ∀ b, A = some b → lo ≤ b.block ∧ b.block < w.heap.size := by
  have hlt := h.lt
  obtain ⟨_, h2⟩ := h
  rcases h2 with ⟨rfl, hn⟩ | ⟨g, cap, cur, rfl, hb, hg, hnc, hcm, hcs, htake⟩
  · have : xs = [] := List.eq_nil_of_length_eq_zero hn
    subst this
    exact ⟨none, 0, rfl, fun i x hx => by simp at hx, fun b hb => by cases hb⟩
  · refine ⟨_, cap, rfl, fun i x hx => ?_, fun b hb => by injection hb with hb; subst hb; exact hlt g rfl⟩
    have hi : i < xs.length := (List.getElem?_eq_some_iff.1 hx).1
    refine ⟨g, 0, rfl, (hlt g rfl).2, ?_⟩
    have := World.ownsRow.cellAt (w := w) (base := lo) (e := 3) (size := 1) (g := g) (n := xs.length) (cap := cap) (xs := xs.map (Value.int .i64)) ⟨by simp, .inr ⟨g, cap, cur, rfl, hb, hg, hnc, hcm, hcs, htake⟩⟩ i (by omega)
    rw [Nat.zero_add, this]
    simp [hx]

theorem IntSl.below {w w' : World} {lo : Nat} {v : Value} {xs : List Int} (h : IntSl w lo v xs) (hb : Below w.heap.size w w') : IntSl w' lo v xs := by
  have hlt := h.lt
  obtain ⟨h1, h2⟩ := h
  refine ⟨h1, ?_⟩
  rcases h2 with hn | ⟨g, cap, cur, rfl, hb0, hg, r⟩
  · exact .inl hn
  · exact .inr ⟨g, cap, cur, rfl, hb0, (hb.block g (hlt g rfl).2).trans hg, r⟩

theorem IntSl.mono {w : World} {lo lo' : Nat} {v : Value} {xs : List Int} (h : IntSl w lo v xs) (hl : lo' ≤ lo) : IntSl w lo' v xs := by
  obtain ⟨h1, h2⟩ := h
  refine ⟨h1, ?_⟩
  rcases h2 with hn | ⟨g, cap, cur, rfl, hb0, r⟩
  · exact .inl hn
  · exact .inr ⟨g, cap, cur, rfl, Nat.le_trans hl hb0, r⟩

/-- None of the allergens of a set is in another. -/
def meet0 (a b : Int) : Bool := a + b - orI a b == 0

theorem meet_all : ∀ x y : Fin 32, (bits .and .i64 (x.val : Int) (y.val : Int) == 0) = meet0 x.val y.val := by decide +kernel

theorem meet_all' (x y : Int) (h0 : 0 ≤ x) (h1 : x ≤ 31) (k0 : 0 ≤ y) (k1 : y ≤ 31) : (bits .and .i64 x y == 0) = meet0 x y := by
  have := meet_all ⟨x.toNat, by omega⟩ ⟨y.toNat, by omega⟩
  simpa [Int.toNat_of_nonneg h0, Int.toNat_of_nonneg k0] using this

theorem marksFrom_range {s : Int} : ∀ (l : List Item) (k : Nat) (m : Int), 0 ≤ m → m < 2 ^ 5 → (∀ x ∈ l, 0 ≤ x.marks ∧ x.marks ≤ 31) → 0 ≤ marksFrom s k l m ∧ marksFrom s k l m < 2 ^ 5
  | [], _, _, h0, h1, _ => ⟨h0, h1⟩
  | x :: r, k, m, h0, h1, hx => by
    unfold marksFrom
    have hm := hx x (by simp)
    split
    · have := orI_pow (m := 5) (a := m) (b := x.marks) h1 (by show x.marks < 32; omega) h0 hm.1
      exact marksFrom_range r _ _ this.1 this.2 (fun y hy => hx y (by simp [hy]))
    · exact marksFrom_range r _ _ h0 h1 (fun y hy => hx y (by simp [hy]))

theorem marksL_range {l : List Item} (h : itemsOk l = true) {k : Int} (h0 : 0 ≤ k) (h1 : k < l.length) : 0 ≤ marksL l k ∧ marksL l k ≤ 31 := by
  have hu : ¬ usesL l k < 0 := by
    have hr : inR k 0 ((l.length : Int) - 1) = true := inR_iff.2 (by omega)
    unfold usesL
    rw [if_pos (by simp [h, hr])]
    have := (usesGo_pow h (m := k.toNat + 1) (k.toNat + 1) (2 ^ k.toNat) (by omega) (by omega) (Int.pow_nonneg (by omega)) (by
      have := Nat.pow_lt_pow_right (a := 2) (by omega) (show k.toNat < k.toNat + 1 by omega)
      have e : ((2 : Int) ^ (k.toNat + 1)) = ((2 ^ (k.toNat + 1) : Nat) : Int) := by simp
      have e' : ((2 : Int) ^ k.toNat) = ((2 ^ k.toNat : Nat) : Int) := by simp
      rw [e, e']
      omega)).1
    omega
  unfold marksL
  rw [if_neg hu]
  have := marksFrom_range (s := usesL l k) l 0 0 (by omega) (by decide) (fun x hx => by
    obtain ⟨i, hi⟩ := List.getElem?_of_mem hx
    have := itemsOk_at h hi
    exact ⟨this.1, this.2.1⟩)
  have h2 : (2 : Int) ^ 5 = 32 := by decide
  omega

def freeFrom (l : List Item) (avoid : Int) : Nat → List Item → List Int
  | _, [] => []
  | k, x :: r => (if (decide (0 < x.yield) && meet0 (marksL l k) avoid) = true then [(k : Int)] else []) ++ freeFrom l avoid (k + 1) r

def freeL (l : List Item) (avoid : Int) : List Int := if (itemsOk l && inR avoid 0 31) = true then freeFrom l avoid 0 l else []

theorem info3 : (Tryd.prog.info? 3).map (fun i => (i.zero, i.size, i.bytes)) = some (some (.int .i64 0), 1, 8) := by kernel_rfl

set_option maxHeartbeats 1000000 in
theorem implFreeOf_any (A : Option Addr) (c : Nat) (l : List Item) (avoid : Int) (w : World) (hA : ItemsAt w A l) (hl : l.length ≤ 1048576) (hp : ∀ x ∈ l, x.parts.length ≤ 1048576) :
    Calls Tryd.prog 99 #[.slice A l.length c, .int .i64 avoid] w fun e w' => ∃ v, e = .returned v ∧ IntSl w' w.heap.size v (freeL l avoid) ∧ Below w.heap.size w w' := by
  have HP := hide hp
  clear hp
  cases hI : itemsOk l with
  | false =>
    have HI := hide hI
    have HR : Hid (freeL l avoid = []) := by unfold freeL; rw [hI]; exact hide rfl
    clear hI
    go_enter Tryd.func99, Tryd.ntmps99
    go_wp2_with fail
    refine (implItemsValid_any _ _ _ _ hA hl HP.out).mono ?_
    rintro e w1 ⟨rfl, hB⟩
    rw [HI.out]
    go_wp2_with fail
    refine bodyPost_ret (results_tmp rfl _ _ _) rfl ⟨.slice none 0 0, rfl, by rw [HR.out]; exact World.ownsRow_nil _ _ _ _, hB⟩
  | true =>
    have HI := hide hI
    have hl6 := itemsOk_len hI
    cases hR : inR avoid 0 31 with
    | false =>
      have HQ := hide hR
      have HR : Hid (freeL l avoid = []) := by unfold freeL; rw [hI, hR]; exact hide rfl
      clear hI hR
      go_enter Tryd.func99, Tryd.ntmps99
      go_wp2_with fail
      refine (implItemsValid_any _ _ _ _ hA hl HP.out).mono ?_
      rintro e w1 ⟨rfl, hB⟩
      rw [HI.out]
      go_wp2_with fail
      refine (inRange_is _ _ _ _ HQ _).mono ?_
      rintro e w2 ⟨rfl, rfl⟩
      go_wp2_with fail
      refine bodyPost_ret (results_tmp rfl _ _ _) rfl ⟨.slice none 0 0, rfl, by rw [HR.out]; exact World.ownsRow_nil _ _ _ _, hB⟩
    | true =>
      have HQ := hide hR
      have HR : Hid (freeL l avoid = freeFrom l avoid 0 l) := by unfold freeL; rw [hI, hR]; exact hide rfl
      have hav := inR_iff.1 hR
      have ha0 : 0 ≤ avoid := hav.1
      have ha1 : avoid ≤ 31 := hav.2
      obtain ⟨i0, hi, hz0, hz1, hz2⟩ := info_parts info3
      have HII := hide (And.intro hi (And.intro hz0 (And.intro hz1 hz2)))
      clear hI hR hav hi hz0 hz1 hz2
      go_enter Tryd.func99, Tryd.ntmps99
      go_wp2_with fail
      refine (implItemsValid_any _ _ _ _ hA hl HP.out).mono ?_
      rintro e w1 ⟨rfl, hB⟩
      rw [HI.out]
      go_wp2_with fail
      refine (inRange_is _ _ _ _ HQ _).mono ?_
      rintro e w2 ⟨rfl, rfl⟩
      have hsz1 := hB.size
      go_wp2_with fail
      go_loopw [5, 18] (fun v i wr => ∃ (k : Nat) (ys : List Int), k ≤ l.length ∧ ys.length ≤ k ∧ i = .int .i64 k ∧ IntSl wr w.heap.size v ys ∧ Hid (freeL l avoid = ys ++ freeFrom l avoid k (l.drop k)) ∧ Below w.heap.size w wr) (fun _ i _ => l.length - (intOf i).toNat)
      case atStart => exact ⟨0, [], by omega, by simp, rfl, World.ownsRow_nil _ _ _ _, by rw [HR.out]; exact hide rfl, hB⟩
      case round =>
        obtain ⟨k, ys, hk, hyk, rfl, hS, HG, hb⟩ := hrel
        have hsz := hb.size
        by_cases hlt : k < l.length
        · obtain ⟨b, off, B, d, rfl, hbl, hc1, hc2, hc3, hpa⟩ := (hA.below hb) k l[k] (List.getElem?_eq_getElem hlt)
          have HD : Hid (l.drop k = l[k] :: l.drop (k + 1)) := hide (List.drop_eq_getElem_cons hlt)
          have hx := itemsOk_at HI.out (List.getElem?_eq_getElem hlt)
          have hmr := marksL_range (l := l) HI.out (k := k) (by omega) (by omega)
          generalize l[k] = x at *
          have hy0 : 0 ≤ x.yield := hx.2.2.1
          clear hx
          have hz : (0 : Int) ≤ k := by omega
          have hz2 : (k : Int) < l.length := by omega
          by_cases hy : 0 < x.yield
          · have HM : Hid (decide (0 < x.yield) = true) := hide (decide_eq_true hy)
            have HT := hide (meet_all' (marksL l k) avoid hmr.1 hmr.2 ha0 ha1)
            clear hmr
            cases hm : meet0 (marksL l k) avoid with
            | false =>
              have HF : Hid (freeL l avoid = ys ++ freeFrom l avoid (k + 1) (l.drop (k + 1))) := hide (by rw [HG.out, HD.out, freeFrom, HM.out, hm, if_neg (by simp)]; rfl)
              have hbt : (bits .and .i64 (marksL l k) avoid == 0) = false := HT.out.trans hm
              clear hm
              go_wp2_with fail
              refine (isMade_is _ _ _ _ _ _ HM _).mono ?_
              rintro e w3 ⟨rfl, hB3⟩
              have hb3 : Below w.heap.size w w3 := Below.trans (by go_grown) (hB3.mono (by simp; omega))
              have hS3 : IntSl w3 w.heap.size u5 ys := (hS.below (w' := wr.alloc _) (by go_grown)).below hB3
              have hcell : ∀ o, w3.cell? ⟨wr.heap.size, o, none⟩ = _ := fun o => hB3.cell (p := ⟨wr.heap.size, o, none⟩) (by simp)
              go_wp2_with fail
              refine (implMarksOf_any _ _ _ _ _ (hA.below hb3) hl HP.out).mono ?_
              rintro e w4 ⟨rfl, hB4⟩
              have hb4 := next hb3 hB4
              have hS4 := hS3.below hB4
              go_wp2_with fail
              go_roundw
              case rel => exact ⟨k + 1, ys, hlt, by omega, by go_num, hS4, HF, hb4⟩
              case measure => simp [intOf]; omega
            | true =>
              have HF : Hid (freeL l avoid = (ys ++ [(k : Int)]) ++ freeFrom l avoid (k + 1) (l.drop (k + 1))) := hide (by rw [HG.out, HD.out, freeFrom, HM.out, hm, if_pos (by simp), List.append_assoc])
              have hbt : (bits .and .i64 (marksL l k) avoid == 0) = true := HT.out.trans hm
              clear hm
              go_wp2_with fail
              refine (isMade_is _ _ _ _ _ _ HM _).mono ?_
              rintro e w3 ⟨rfl, hB3⟩
              have hb3 : Below w.heap.size w w3 := Below.trans (by go_grown) (hB3.mono (by simp; omega))
              have hS3 : IntSl w3 w.heap.size u5 ys := (hS.below (w' := wr.alloc _) (by go_grown)).below hB3
              have hcell : ∀ o, w3.cell? ⟨wr.heap.size, o, none⟩ = _ := fun o => hB3.cell (p := ⟨wr.heap.size, o, none⟩) (by simp)
              go_wp2_with fail
              refine (implMarksOf_any _ _ _ _ _ (hA.below hb3) hl HP.out).mono ?_
              rintro e w4 ⟨rfl, hB4⟩
              have hb4 := next hb3 hB4
              have hS4 := hS3.below hB4
              have hsz4 := hb4.size
              clear hS hS3 hcell hB3 hB4 hb3
              go_wp2_with (at_builtin; refine wpList_append_own _ rfl _ _ 23 rfl w.heap.size 3 i0 (.int .i64 0) 1 8 Tryd.underlying23 HII.out.1 HII.out.2.1 HII.out.2.2.1 HII.out.2.2.2 rfl (by decide) _ _ _ rfl (hS4.alloc _) ⟨w4.heap.size, 0, none⟩ 1 1 [.int .i64 (k : Int)] rfl rfl (cell_one_new _ _ _) (ints_oneCell .i64 [(k : Int)]) (by unfold maxLen; omega) (by omega) (by simp; omega) ?_; intro v' w5 hown5 hgrow5 _)
              have hg5 : (w4.alloc (.cells #[.int .i64 (k : Int)] 3)).grownBy w5 u5.ownBlock := hgrow5
              clear hgrow5
              have hS5 : IntSl w5 w.heap.size v' (ys ++ [(k : Int)]) := by simpa [IntSl] using hown5
              have hb5 : Below w.heap.size w w5 := (hb4.alloc hsz4 _).grown hg5 (by simp; omega) (fun j hj => (hS4.lt j hj).1)
              clear hown5
              go_wp2_with fail
              go_roundw
              case rel => exact ⟨k + 1, ys ++ [(k : Int)], hlt, by simp; omega, by go_num, hS5, HF, hb5⟩
              case measure => simp [intOf]; omega
          · have HM : Hid (decide (0 < x.yield) = false) := hide (decide_eq_false hy)
            have HF : Hid (freeL l avoid = ys ++ freeFrom l avoid (k + 1) (l.drop (k + 1))) := hide (by rw [HG.out, HD.out, freeFrom, HM.out, if_neg (by simp)]; rfl)
            go_wp2_with fail
            refine (isMade_is _ _ _ _ _ _ HM _).mono ?_
            rintro e w3 ⟨rfl, hB3⟩
            have hb3 : Below w.heap.size w w3 := Below.trans (by go_grown) (hB3.mono (by simp; omega))
            have hS3 : IntSl w3 w.heap.size u5 ys := (hS.below (w' := wr.alloc _) (by go_grown)).below hB3
            go_wp2_with fail
            go_roundw
            case rel => exact ⟨k + 1, ys, hlt, by omega, by go_num, hS3, HF, hb3⟩
            case measure => simp [intOf]; omega
        · have HE : Hid (freeL l avoid = ys) := hide (by rw [HG.out, List.drop_of_length_le (by omega)]; simp [freeFrom])
          go_wp2_with fail
          refine bodyPost_ret (results_tmp rfl _ _ _) rfl ⟨u5, rfl, by rw [HE.out]; exact hS, hb⟩

set_option maxHeartbeats 400000 in
theorem l1Meet_any (a b : Int) (w : World) (h0 : 0 ≤ a) (h1 : a ≤ 31) (h2 : 0 ≤ b) (h3 : b ≤ 31) :
    Calls Tryd.prog 93 #[.int .i64 a, .int .i64 b] w fun e w' => e = .returned (.int .i64 (a + b - orI a b)) ∧ w' = w := by
  have ho := orI_lt (a := a) (b := b) (by omega) (by omega)
  go_enter Tryd.func93, Tryd.ntmps93
  go_wp2_with fail
  refine (l1Join_any _ _ _ h0 (by omega) h2 (by omega)).mono ?_
  rintro e w' ⟨rfl, rfl⟩
  go_wp2_with fail
  go_ret
  exact ⟨rfl, rfl⟩

set_option maxHeartbeats 1000000 in
theorem specFreeOf_any (A : Option Addr) (c : Nat) (l : List Item) (avoid : Int) (w : World) (hA : ItemsAt w A l) (hl : l.length ≤ 1048576) (hp : ∀ x ∈ l, x.parts.length ≤ 1048576) :
    Calls Tryd.prog 67 #[.slice A l.length c, .int .i64 avoid] w fun e w' => ∃ v, e = .returned v ∧ IntSl w' w.heap.size v (freeL l avoid) ∧ Below w.heap.size w w' := by
  have HP := hide hp
  clear hp
  have hown0 : IntSl (w.alloc (.cells #[] 3)) w.heap.size (.slice (some ⟨w.heap.size, 0, none⟩) 0 0) [] := World.ownsRow_lit w #[] 0 (Nat.le_refl _) (by unfold maxLen; omega) rfl
  have HO := hide hown0
  clear hown0
  cases hI : itemsOk l with
  | false =>
    have HI := hide hI
    have HR : Hid (freeL l avoid = []) := by unfold freeL; rw [hI]; exact hide rfl
    clear hI
    go_enter Tryd.func67, Tryd.ntmps67
    go_wp2_with fail
    go_loopw [5, 6] (fun v i wr => v = .slice (some ⟨w.heap.size, 0, none⟩) 0 0 ∧ i = .int .i64 0 ∧ IntSl wr w.heap.size v [] ∧ Below w.heap.size w wr) (fun _ _ _ => 0)
    case atStart => exact ⟨rfl, rfl, HO.out, by go_grown⟩
    case round =>
      obtain ⟨rfl, rfl, hS, hb⟩ := hrel
      by_cases hz : (0 : Int) < l.length
      · go_wp2_with fail
        refine (specItemsValid_any _ _ _ _ (hA.below hb) hl HP.out).mono ?_
        rintro e w1 ⟨rfl, hB⟩
        rw [HI.out]
        have hb1 := next hb hB
        have hS1 := hS.below hB
        go_wp2_with fail
        refine bodyPost_ret (results_tmp rfl _ _ _) rfl ⟨_, rfl, by rw [HR.out]; exact hS1, hb1⟩
      · go_wp2_with fail
        refine bodyPost_ret (results_tmp rfl _ _ _) rfl ⟨_, rfl, by rw [HR.out]; exact hS, hb⟩
  | true =>
    have HI := hide hI
    have hl6 := itemsOk_len hI
    cases hR : inR avoid 0 31 with
    | false =>
      have HQ := hide hR
      have HR : Hid (freeL l avoid = []) := by unfold freeL; rw [hI, hR]; exact hide rfl
      clear hI hR
      go_enter Tryd.func67, Tryd.ntmps67
      go_wp2_with fail
      go_loopw [5, 6] (fun v i wr => v = .slice (some ⟨w.heap.size, 0, none⟩) 0 0 ∧ i = .int .i64 0 ∧ IntSl wr w.heap.size v [] ∧ Below w.heap.size w wr) (fun _ _ _ => 0)
      case atStart => exact ⟨rfl, rfl, HO.out, by go_grown⟩
      case round =>
        obtain ⟨rfl, rfl, hS, hb⟩ := hrel
        by_cases hz : (0 : Int) < l.length
        · go_wp2_with fail
          refine (specItemsValid_any _ _ _ _ (hA.below hb) hl HP.out).mono ?_
          rintro e w1 ⟨rfl, hB⟩
          rw [HI.out]
          have hb1 := next hb hB
          have hS1 := hS.below hB
          go_wp2_with fail
          refine (l1In_is _ _ _ _ HQ _).mono ?_
          rintro e w2 ⟨rfl, rfl⟩
          go_wp2_with fail
          refine bodyPost_ret (results_tmp rfl _ _ _) rfl ⟨_, rfl, by rw [HR.out]; exact hS1, hb1⟩
        · go_wp2_with fail
          refine bodyPost_ret (results_tmp rfl _ _ _) rfl ⟨_, rfl, by rw [HR.out]; exact hS, hb⟩
    | true =>
      have HQ := hide hR
      have HR : Hid (freeL l avoid = freeFrom l avoid 0 l) := by unfold freeL; rw [hI, hR]; exact hide rfl
      have hav := inR_iff.1 hR
      have ha0 : 0 ≤ avoid := hav.1
      have ha1 : avoid ≤ 31 := hav.2
      obtain ⟨i0, hi, hz0, hz1, hz2⟩ := info_parts info3
      have HII := hide (And.intro hi (And.intro hz0 (And.intro hz1 hz2)))
      clear hI hR hav hi hz0 hz1 hz2
      go_enter Tryd.func67, Tryd.ntmps67
      go_wp2_with fail
      go_loopw [5, 6] (fun v i wr => ∃ (k : Nat) (ys : List Int), k ≤ l.length ∧ ys.length ≤ k ∧ i = .int .i64 k ∧ IntSl wr w.heap.size v ys ∧ Hid (freeL l avoid = ys ++ freeFrom l avoid k (l.drop k)) ∧ Below w.heap.size w wr) (fun _ i _ => l.length - (intOf i).toNat)
      case atStart => exact ⟨0, [], by omega, by simp, rfl, HO.out, by rw [HR.out]; exact hide rfl, by go_grown⟩
      case round =>
        obtain ⟨k, ys, hk, hyk, rfl, hS, HG, hb⟩ := hrel
        have hsz := hb.size
        by_cases hlt : k < l.length
        · have hz : (0 : Int) ≤ k := by omega
          have hz2 : (k : Int) < l.length := by omega
          go_wp2_with fail
          refine (specItemsValid_any _ _ _ _ (hA.below hb) hl HP.out).mono ?_
          rintro e w1 ⟨rfl, hB⟩
          rw [HI.out]
          have hb1 := next hb hB
          have hS1 := hS.below hB
          go_wp2_with fail
          refine (l1In_is _ _ _ _ HQ _).mono ?_
          rintro e w2 ⟨rfl, rfl⟩
          have hsz2 := hb1.size
          obtain ⟨b, off, B, d, rfl, hbl, hc1, hc2, hc3, hpa⟩ := (hA.below hb1) k l[k] (List.getElem?_eq_getElem hlt)
          have HD : Hid (l.drop k = l[k] :: l.drop (k + 1)) := hide (List.drop_eq_getElem_cons hlt)
          have hmr := marksL_range (l := l) HI.out (k := k) (by omega) (by omega)
          generalize l[k] = x at *
          clear hS hb hB
          by_cases hy : 0 < x.yield
          · have HM : Hid (decide (0 < x.yield) = true) := hide (decide_eq_true hy)
            have hor := orI_lt (a := marksL l k) (b := avoid) (by omega) (by omega)
            cases hm : meet0 (marksL l k) avoid with
            | false =>
              have HF : Hid (freeL l avoid = ys ++ freeFrom l avoid (k + 1) (l.drop (k + 1))) := hide (by rw [HG.out, HD.out, freeFrom, HM.out, hm, if_neg (by simp)]; rfl)
              have hbt : (marksL l k + avoid - orI (marksL l k) avoid == 0) = false := hm
              clear hm
              go_wp2_with fail
              refine (specMarksOf_any _ _ _ _ _ (hA.below hb1) hl HP.out).mono ?_
              rintro e w4 ⟨rfl, hB4⟩
              have hb4 := next hb1 hB4
              have hS4 := hS1.below hB4
              go_wp2_with fail
              refine (l1Meet_any _ _ _ hmr.1 hmr.2 ha0 ha1).mono ?_
              rintro e w5 ⟨rfl, rfl⟩
              go_wp2_with fail
              go_roundw
              case rel => exact ⟨k + 1, ys, hlt, by omega, by go_num, hS4, HF, hb4⟩
              case measure => simp [intOf]; omega
            | true =>
              have HF : Hid (freeL l avoid = (ys ++ [(k : Int)]) ++ freeFrom l avoid (k + 1) (l.drop (k + 1))) := hide (by rw [HG.out, HD.out, freeFrom, HM.out, hm, if_pos (by simp), List.append_assoc])
              have hbt : (marksL l k + avoid - orI (marksL l k) avoid == 0) = true := hm
              clear hm
              go_wp2_with fail
              refine (specMarksOf_any _ _ _ _ _ (hA.below hb1) hl HP.out).mono ?_
              rintro e w4 ⟨rfl, hB4⟩
              have hb4 := next hb1 hB4
              have hS4 := hS1.below hB4
              have hsz4 := hb4.size
              clear hS1 hB4
              go_wp2_with fail
              refine (l1Meet_any _ _ _ hmr.1 hmr.2 ha0 ha1).mono ?_
              rintro e w5 ⟨rfl, rfl⟩
              go_wp2_with (at_builtin; refine wpList_append_own _ rfl _ _ 23 rfl w.heap.size 3 i0 (.int .i64 0) 1 8 Tryd.underlying23 HII.out.1 HII.out.2.1 HII.out.2.2.1 HII.out.2.2.2 rfl (by decide) _ _ _ rfl (hS4.alloc _) ⟨w5.heap.size, 0, none⟩ 1 1 [.int .i64 (k : Int)] rfl rfl (cell_one_new _ _ _) (ints_oneCell .i64 [(k : Int)]) (by unfold maxLen; omega) (by omega) (by simp; omega) ?_; intro v' w6 hown6 hgrow6 _)
              have hg6 : (w5.alloc (.cells #[.int .i64 (k : Int)] 3)).grownBy w6 u5.ownBlock := hgrow6
              clear hgrow6
              have hS6 : IntSl w6 w.heap.size v' (ys ++ [(k : Int)]) := by simpa [IntSl] using hown6
              have hb6 : Below w.heap.size w w6 := (hb4.alloc hsz4 _).grown hg6 (by simp; omega) (fun j hj => (hS4.lt j hj).1)
              clear hown6
              go_wp2_with fail
              go_roundw
              case rel => exact ⟨k + 1, ys ++ [(k : Int)], hlt, by simp; omega, by go_num, hS6, HF, hb6⟩
              case measure => simp [intOf]; omega
          · have HM : Hid (decide (0 < x.yield) = false) := hide (decide_eq_false hy)
            have HF : Hid (freeL l avoid = ys ++ freeFrom l avoid (k + 1) (l.drop (k + 1))) := hide (by rw [HG.out, HD.out, freeFrom, HM.out, if_neg (by simp)]; rfl)
            go_wp2_with fail
            go_roundw
            case rel => exact ⟨k + 1, ys, hlt, by omega, by go_num, hS1, HF, hb1⟩
            case measure => simp [intOf]; omega
        · have HE : Hid (freeL l avoid = ys) := hide (by rw [HG.out, List.drop_of_length_le (by omega)]; simp [freeFrom])
          go_wp2_with fail
          refine bodyPost_ret (results_tmp rfl _ _ _) rfl ⟨u5, rfl, by rw [HE.out]; exact hS, hb⟩
end Go.Proofs.YtmepnilnlpoodaaDoor
